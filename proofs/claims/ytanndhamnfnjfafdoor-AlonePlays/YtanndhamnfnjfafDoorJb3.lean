/-
  RefPut, RefPlan, St8, AKern, ACame: joined into one text.
-/
import Derived.Test.YtanndhamnfnjfafDoorJb2
import Derived.Test.YtanndhamnfnjfafDoorJb1
import Derived.BigQuiet
namespace Go.Proofs.YtanndhamnfnjfafDoor
open Go.RowKit

/-- Any list's number, where it can be read. -/
def IntAt (w : World) (ao : Option Addr) (zs : List Int) : Prop := zs = [] ∨ ∃ a, ao = some a ∧ a.block < w.heap.size ∧ ∀ (i : Nat) z, zs[i]? = some z → w.cell? (a.add i) = some (.int .i64 z)
theorem ints_form {w : World} {v : Value} {zs : List Int} (h : Ints w v zs) : ∃ ao cap, v = .slice ao zs.length cap ∧ IntAt w ao zs := by
  rcases h with ⟨rfl, rfl⟩ | ⟨a, cap, rfl, ha, hc⟩
  · exact ⟨_, _, rfl, Or.inl rfl⟩
  · exact ⟨_, _, rfl, Or.inr ⟨a, rfl, ha, hc⟩⟩

set_option maxRecDepth 1000000 in
set_option maxHeartbeats 8000000 in
theorem put_any (v : Value) (zs : List Int) (n : Int) (w : World) (hv : Ints w v zs) (hl : zs.length ≤ 1000) :
    Calls Tryd.prog 23 #[v, .int .i64 n] w fun e w' => ∃ v', e = .returned v' ∧ Ints w' v' (putGo n false zs) ∧ Below w.heap.size w w' := by
  obtain ⟨ao, cap, rfl, hat⟩ := ints_form hv
  clear hv
  obtain ⟨ii, hi, hz0, hz1, hz2⟩ := info_parts infoIntC
  go_enter Tryd.func23, Tryd.ntmps23
  go_wp2
  go_loopw [5, 6, 7] (fun o d i wr => ∃ (k : Nat) (pre : List Int) (done : Bool), k ≤ zs.length ∧ pre.length ≤ k + 1 ∧ i = .int .i64 k ∧ d = .bool done ∧ wr.ownsRow w.heap.size 3 1 o pre.length (pre.map (Value.int .i64)) ∧ Below w.heap.size w wr ∧
      pre ++ putGo n done (zs.drop k) = putGo n false zs ∧ (done = false → pre.length ≤ k)) (fun _ _ i _ => zs.length - (intOf i).toNat)
  case atStart => exact ⟨0, [], false, Nat.zero_le _, by simp, rfl, rfl, World.ownsRow_nil _ _ _ _, Below.refl _ _, by simp, by simp⟩
  case round =>
    obtain ⟨k, pre, done, hk, hpl, rfl, rfl, hown, hb, hinv, hdl⟩ := hrel
    have HI : Hid (pre ++ putGo n done (zs.drop k) = putGo n false zs) := hinv
    clear hinv
    have hsz := hb.size
    by_cases hkl : k < zs.length
    · obtain ⟨z, hz⟩ : ∃ z, zs[k]? = some z := ⟨zs[k], List.getElem?_eq_getElem hkl⟩
      have HZ : Hid (zs.drop k = z :: zs.drop (k + 1)) := by
        have := List.drop_eq_getElem_cons hkl
        rw [List.getElem?_eq_getElem hkl] at hz
        rw [Option.some.inj hz] at this
        exact this
      obtain ⟨a, rfl, hab, hca⟩ : ∃ a, ao = some a ∧ a.block < w.heap.size ∧ ∀ (i : Nat) z, zs[i]? = some z → w.cell? (a.add i) = some (.int .i64 z) := by
        rcases hat with h | h
        · rw [h] at hkl; simp at hkl
        · exact h
      have c9 := hca k z hz
      have c0 := (hb.cell (p := a.add k) (by rw [add_block]; exact hab)).trans c9
      clear hz hat hca
      cases done with
      | true =>
        have HQ : Hid ((pre ++ [z]) ++ putGo n true (zs.drop (k + 1)) = putGo n false zs) := by
          show _ = _
          have := HI.out
          rw [HZ.out, putGo_true] at this
          rw [putGo_true]
          simpa using this
        clear HI HZ hdl
        by_cases hzn : z = n
        · have hq : (z == n) = true := by simpa using hzn
          clear hzn
          go_wp2_with (at_builtin; refine wpList_append_own _ rfl _ _ 43 rfl w.heap.size 3 ii (.int .i64 0) 1 8 Tryd.underlying43 hi hz0 hz1 hz2 rfl (by decide) _ _ _ rfl (hown.alloc _) ⟨wr.heap.size, 0, none⟩ 1 1 [.int .i64 z] rfl rfl ?c1A ?c2A ?c3A ?c4A ?c5A ?_)
          case c1A =>
            intro j u hj
            match j, hj with
            | 0, hj => simp at hj; subst hj; simp [Addr.add]
          case c2A => intro u hu; simp at hu; subst hu; rfl
          case c3A => unfold maxLen; (try simp only [List.length_append, List.length_cons, List.length_nil]); omega
          case c4A => (try simp only [List.length_append, List.length_cons, List.length_nil]); omega
          case c5A => simp; omega
          intro v1 w1 hown' hgrow _
          have hbA : Below w.heap.size w w1 := (hb.alloc hsz _).grown hgrow (by simp; omega) (fun j hj => (hown.lt j hj).1)
          have RA : w1.ownsRow w.heap.size 3 1 v1 (pre ++ [z]).length ((pre ++ [z]).map (Value.int .i64)) := by simpa using hown'
          clear hown' hgrow hown
          go_wp2
          go_roundw
          case rel => exact ⟨k + 1, pre ++ [z], true, by omega, by simp; omega, by go_num, rfl, RA, hbA, HQ.out, by simp⟩
          case measure => simp [intOf]; omega
        · have hq : (z == n) = false := by simpa using hzn
          clear hzn
          go_wp2_with (at_builtin; refine wpList_append_own _ rfl _ _ 43 rfl w.heap.size 3 ii (.int .i64 0) 1 8 Tryd.underlying43 hi hz0 hz1 hz2 rfl (by decide) _ _ _ rfl (hown.alloc _) ⟨wr.heap.size, 0, none⟩ 1 1 [.int .i64 z] rfl rfl ?c1B ?c2B ?c3B ?c4B ?c5B ?_)
          case c1B =>
            intro j u hj
            match j, hj with
            | 0, hj => simp at hj; subst hj; simp [Addr.add]
          case c2B => intro u hu; simp at hu; subst hu; rfl
          case c3B => unfold maxLen; (try simp only [List.length_append, List.length_cons, List.length_nil]); omega
          case c4B => (try simp only [List.length_append, List.length_cons, List.length_nil]); omega
          case c5B => simp; omega
          intro v1 w1 hown' hgrow _
          have hbB : Below w.heap.size w w1 := (hb.alloc hsz _).grown hgrow (by simp; omega) (fun j hj => (hown.lt j hj).1)
          have RB : w1.ownsRow w.heap.size 3 1 v1 (pre ++ [z]).length ((pre ++ [z]).map (Value.int .i64)) := by simpa using hown'
          clear hown' hgrow hown
          go_wp2
          go_roundw
          case rel => exact ⟨k + 1, pre ++ [z], true, by omega, by simp; omega, by go_num, rfl, RB, hbB, HQ.out, by simp⟩
          case measure => simp [intOf]; omega
      | false =>
        have hpl2 := hdl rfl
        clear hdl
        by_cases hzn : z = n
        · have HQ : Hid ((pre ++ [z]) ++ putGo n true (zs.drop (k + 1)) = putGo n false zs) := by
            show _ = _
            have := HI.out
            rw [HZ.out, putGo_eq hzn] at this
            rw [putGo_true]
            simpa using this
          have hq : (z == n) = true := by simpa using hzn
          clear hzn HI HZ
          go_wp2_with (at_builtin; refine wpList_append_own _ rfl _ _ 43 rfl w.heap.size 3 ii (.int .i64 0) 1 8 Tryd.underlying43 hi hz0 hz1 hz2 rfl (by decide) _ _ _ rfl (hown.alloc _) ⟨wr.heap.size, 0, none⟩ 1 1 [.int .i64 z] rfl rfl ?c1C ?c2C ?c3C ?c4C ?c5C ?_)
          case c1C =>
            intro j u hj
            match j, hj with
            | 0, hj => simp at hj; subst hj; simp [Addr.add]
          case c2C => intro u hu; simp at hu; subst hu; rfl
          case c3C => unfold maxLen; (try simp only [List.length_append, List.length_cons, List.length_nil]); omega
          case c4C => (try simp only [List.length_append, List.length_cons, List.length_nil]); omega
          case c5C => simp; omega
          intro v1 w1 hown' hgrow _
          have hbC : Below w.heap.size w w1 := (hb.alloc hsz _).grown hgrow (by simp; omega) (fun j hj => (hown.lt j hj).1)
          have RC : w1.ownsRow w.heap.size 3 1 v1 (pre ++ [z]).length ((pre ++ [z]).map (Value.int .i64)) := by simpa using hown'
          clear hown' hgrow hown
          go_wp2
          go_roundw
          case rel => exact ⟨k + 1, pre ++ [z], true, by omega, by simp; omega, by go_num, rfl, RC, hbC, HQ.out, by simp⟩
          case measure => simp [intOf]; omega
        · have hq : (z == n) = false := by simpa using hzn
          by_cases hlt : n < z
          · have HQ : Hid ((pre ++ [n] ++ [z]) ++ putGo n true (zs.drop (k + 1)) = putGo n false zs) := by
              show _ = _
              have := HI.out
              rw [HZ.out, putGo_lt hlt] at this
              rw [putGo_true]
              simpa using this
            clear hzn HI HZ
            have hd : decide (z > n) = true := by simpa using hlt
            go_wp2_with (at_builtin; refine wpList_append_own _ rfl _ _ 43 rfl w.heap.size 3 ii (.int .i64 0) 1 8 Tryd.underlying43 hi hz0 hz1 hz2 rfl (by decide) _ _ _ rfl (hown.alloc _) ⟨wr.heap.size, 0, none⟩ 1 1 [.int .i64 n] rfl rfl ?c1D ?c2D ?c3D ?c4D ?c5D ?_)
            case c1D =>
              intro j u hj
              match j, hj with
              | 0, hj => simp at hj; subst hj; simp [Addr.add]
            case c2D => intro u hu; simp at hu; subst hu; rfl
            case c3D => unfold maxLen; (try simp only [List.length_append, List.length_cons, List.length_nil]); omega
            case c4D => (try simp only [List.length_append, List.length_cons, List.length_nil]); omega
            case c5D => simp; omega
            intro v1 w1 hown' hgrow _
            have hbD : Below w.heap.size w w1 := (hb.alloc hsz _).grown hgrow (by simp; omega) (fun j hj => (hown.lt j hj).1)
            have RD : w1.ownsRow w.heap.size 3 1 v1 (pre ++ [n]).length ((pre ++ [n]).map (Value.int .i64)) := by simpa using hown'
            clear hown' hgrow hown
            have hszD := hbD.size
            have c1 := (hbD.cell (p := a.add k) (by rw [add_block]; exact hab)).trans c9
            go_wp2_with (at_builtin; refine wpList_append_own _ rfl _ _ 43 rfl w.heap.size 3 ii (.int .i64 0) 1 8 Tryd.underlying43 hi hz0 hz1 hz2 rfl (by decide) _ _ _ rfl (RD.alloc _) ⟨w1.heap.size, 0, none⟩ 1 1 [.int .i64 z] rfl rfl ?c1E ?c2E ?c3E ?c4E ?c5E ?_)
            case c1E =>
              intro j u hj
              match j, hj with
              | 0, hj => simp at hj; subst hj; simp [Addr.add]
            case c2E => intro u hu; simp at hu; subst hu; rfl
            case c3E => unfold maxLen; (try simp only [List.length_append, List.length_cons, List.length_nil]); omega
            case c4E => (try simp only [List.length_append, List.length_cons, List.length_nil]); omega
            case c5E => simp; omega
            intro v2 w2 hown' hgrow _
            have hbE : Below w.heap.size w w2 := (hbD.alloc hszD _).grown hgrow (by simp; omega) (fun j hj => (RD.lt j hj).1)
            have RE : w2.ownsRow w.heap.size 3 1 v2 ((pre ++ [n]) ++ [z]).length (((pre ++ [n]) ++ [z]).map (Value.int .i64)) := by simpa using hown'
            clear hown' hgrow RD
            go_wp2
            go_roundw
            case rel => exact ⟨k + 1, pre ++ [n] ++ [z], true, by omega, by simp; omega, by go_num, rfl, RE, hbE, HQ.out, by simp⟩
            case measure => simp [intOf]; omega
          · have hd : decide (z > n) = false := by simpa using hlt
            have HQ : Hid ((pre ++ [z]) ++ putGo n false (zs.drop (k + 1)) = putGo n false zs) := by
              show _ = _
              have := HI.out
              rw [HZ.out, putGo_gt (by omega)] at this
              simpa using this
            have hle : z ≤ n := by omega
            clear hzn HI HZ hlt
            go_wp2_with (at_builtin; refine wpList_append_own _ rfl _ _ 43 rfl w.heap.size 3 ii (.int .i64 0) 1 8 Tryd.underlying43 hi hz0 hz1 hz2 rfl (by decide) _ _ _ rfl (hown.alloc _) ⟨wr.heap.size, 0, none⟩ 1 1 [.int .i64 z] rfl rfl ?c1F ?c2F ?c3F ?c4F ?c5F ?_)
            case c1F =>
              intro j u hj
              match j, hj with
              | 0, hj => simp at hj; subst hj; simp [Addr.add]
            case c2F => intro u hu; simp at hu; subst hu; rfl
            case c3F => unfold maxLen; (try simp only [List.length_append, List.length_cons, List.length_nil]); omega
            case c4F => (try simp only [List.length_append, List.length_cons, List.length_nil]); omega
            case c5F => simp; omega
            intro v1 w1 hown' hgrow _
            have hbF : Below w.heap.size w w1 := (hb.alloc hsz _).grown hgrow (by simp; omega) (fun j hj => (hown.lt j hj).1)
            have RF : w1.ownsRow w.heap.size 3 1 v1 (pre ++ [z]).length ((pre ++ [z]).map (Value.int .i64)) := by simpa using hown'
            clear hown' hgrow hown
            go_wp2
            go_roundw
            case rel => exact ⟨k + 1, pre ++ [z], false, by omega, by simp; omega, by go_num, rfl, RF, hbF, HQ.out, fun _ => by simp; omega⟩
            case measure => simp [intOf]; omega
    · have hke : k = zs.length := by omega
      subst hke
      cases done with
      | true =>
        have HP : Hid (pre = putGo n false zs) := by have := HI.out; rw [putGo_true, List.drop_length, List.append_nil] at this; exact this
        have hv := ints_of_own hown
        obtain ⟨g, n', cap', rfl⟩ := slice_form hown
        clear hown hdl
        go_wp2
        go_ret
        exact ⟨_, rfl, by rw [← HP.out]; exact hv, hb⟩
      | false =>
        have HP : Hid (pre ++ [n] = putGo n false zs) := by have := HI.out; rw [List.drop_length, putGo_nil] at this; exact this
        have hpl2 := hdl rfl
        clear hdl
        go_wp2_with (at_builtin; refine wpList_append_own _ rfl _ _ 43 rfl w.heap.size 3 ii (.int .i64 0) 1 8 Tryd.underlying43 hi hz0 hz1 hz2 rfl (by decide) _ _ _ rfl (hown.alloc _) ⟨wr.heap.size, 0, none⟩ 1 1 [.int .i64 n] rfl rfl ?c1B ?c2B ?c3B ?c4B ?c5B ?_)
        case c1B =>
          intro j u hj
          match j, hj with
          | 0, hj => simp at hj; subst hj; simp [Addr.add]
        case c2B => intro u hu; simp at hu; subst hu; rfl
        case c3B => unfold maxLen; omega
        case c4B => omega
        case c5B => simp; omega
        intro v' w1 hown' hgrow _
        have hb1 : Below w.heap.size w w1 := (hb.alloc hsz _).grown hgrow (by simp; omega) (fun j hj => (hown.lt j hj).1)
        have R : w1.ownsRow w.heap.size 3 1 v' (pre ++ [n]).length ((pre ++ [n]).map (Value.int .i64)) := by simpa using hown'
        clear hown' hgrow hown
        have hv := ints_of_own R
        obtain ⟨g, n', cap', rfl⟩ := slice_form R
        clear R
        go_wp2
        go_ret
        exact ⟨_, rfl, by rw [← HP.out]; exact hv, hb1⟩

set_option maxRecDepth 1000000 in
set_option maxHeartbeats 8000000 in
theorem ports_some (what : Int) (l : List O3) (b off cap : Nat) (w : World) (hlt : b < w.heap.size) (hlen : l.length ≤ 1000) (hw : ∀ o ∈ l, o.1 = what → 0 ≤ o.2.2 ∧ o.2.2 < 12)
    (hc : ∀ (i : Nat) o, l[i]? = some o → w.cell? ⟨b, off + i * 3, none⟩ = some (.int .i64 o.1) ∧ w.cell? ⟨b, off + i * 3 + 1, none⟩ = some (.int .i64 o.2.1) ∧ w.cell? ⟨b, off + i * 3 + 2, none⟩ = some (.int .i64 o.2.2)) :
    Calls Tryd.prog 14 #[.slice (some ⟨b, off, none⟩) l.length cap, .int .i64 what] w fun e w' => ∃ v', e = .returned v' ∧ Ints w' v' (wiresB what l) ∧ Below w.heap.size w w' := by
  go_enter Tryd.func14, Tryd.ntmps14
  go_wp2
  go_loopw [5, 6] (fun o i wr => ∃ k : Nat, k ≤ l.length ∧ i = .int .i64 k ∧ Ints wr o (wiresB what (l.take k)) ∧ Below w.heap.size w wr) (fun _ i _ => l.length - (intOf i).toNat)
  case atStart => exact ⟨0, Nat.zero_le _, rfl, Or.inl ⟨rfl, by simp [wires_nil]⟩, Below.refl _ _⟩
  case round =>
    obtain ⟨k, hk, rfl, hint, hb⟩ := hrel
    have hwl := wires_len what (l.take k)
    obtain ⟨Z, hZ⟩ : ∃ Z, Z = wiresB what (l.take k) := ⟨_, rfl⟩
    rw [← hZ] at hint hwl
    have HZ : Hid (Z = wiresB what (l.take k)) := hZ
    clear hZ
    by_cases hkl : k < l.length
    · obtain ⟨o, ho⟩ : ∃ o, l[k]? = some o := ⟨l[k], List.getElem?_eq_getElem hkl⟩
      have hom := hw o (List.mem_of_getElem? ho)
      have HS : Hid (wiresB what (l.take (k + 1)) = portStep what Z o) := by
        show _ = _
        rw [HZ.out, ← wires_snoc what (l.take k) o hom]
        have := List.take_succ_eq_append_getElem hkl
        rw [List.getElem?_eq_getElem hkl] at ho
        rw [Option.some.inj ho] at this
        rw [this]
      obtain ⟨c0, c1, c2⟩ := hc k o ho
      clear ho hom
      have d0 : wr.cell? ⟨b, off + k * 3, none⟩ = some (.int .i64 o.1) := (hb.cell (p := ⟨b, _, none⟩) hlt).trans c0
      have d2 : wr.cell? ⟨b, off + k * 3 + 2, none⟩ = some (.int .i64 o.2.2) := (hb.cell (p := ⟨b, _, none⟩) hlt).trans c2
      clear c0 c1 c2
      by_cases hq : o.1 = what
      · have HP : Hid (wiresB what (l.take (k + 1)) = putGo o.2.2 false Z) := by
          show _ = _
          rw [HS.out, portStep, if_pos hq]
        have hqb : (o.1 == what) = true := by simpa using hq
        have hput := put_any _ Z o.2.2 wr hint (by omega)
        clear hq HS hint
        go_wp2_with (go_at_call 23; refine hput.mono ?_; rintro e w1 ⟨v1, rfl, hi1, b1⟩; clear hput)
        go_roundw
        case rel => exact ⟨k + 1, by omega, by go_num, by rw [HP.out]; exact hi1, hb.trans (b1.mono hb.size)⟩
        case measure => simp [intOf]; omega
      · have HP : Hid (wiresB what (l.take (k + 1)) = Z) := by
          show _ = _
          rw [HS.out, portStep, if_neg hq]
        have hqb : (o.1 == what) = false := by simpa using hq
        clear hq HS
        go_wp2
        go_roundw
        case rel => exact ⟨k + 1, by omega, by go_num, by rw [HP.out]; exact hint, hb⟩
        case measure => simp [intOf]; omega
    · have hke : k = l.length := by omega
      subst hke
      have HP : Hid (Z = wiresB what l) := by have := HZ.out; rwa [List.take_length] at this
      obtain ⟨ao, cc, rfl, _⟩ := ints_form hint
      go_wp2
      go_ret
      exact ⟨_, rfl, by rw [← HP.out]; exact hint, hb⟩
theorem ports_any (what : Int) (v : Value) (l : List O3) (w : World) (h : Ops w v l) (hk0 : (chk l).2 = 0) (hwh : what = 8 ∨ what = 9) :
    Calls Tryd.prog 14 #[v, .int .i64 what] w fun e w' => ∃ v', e = .returned v' ∧ Ints w' v' (wiresB what l) ∧ Below w.heap.size w w' := by
  rcases h with ⟨rfl, ao, cap, rfl⟩ | ⟨b, off, cap, rfl, hlt, hc⟩
  · exact absurd hk0 (by decide)
  · obtain ⟨hz0, hz1, hz2⟩ := chk_zero hk0
    refine ports_some what l b off cap w hlt (by omega) (fun o ho e => ?_) hc
    have := ok3_range (hz2 o ho)
    have hB : bB o.1 l.length = 12 := by rw [e]; rcases hwh with rfl | rfl <;> simp [bB]
    omega
end Go.Proofs.YtanndhamnfnjfafDoor
namespace Go.Proofs.YtanndhamnfnjfafDoor
open Go.RowKit

set_option maxRecDepth 100000 in
set_option maxHeartbeats 16000000 in
theorem refplan_any (p : PD) (vc vs vw : Value) (w : World) (hp : Pln w vc vs vw p) :
    Calls Tryd.prog 4 #[plV vc p.ticks vs vw] w fun e w' => e = .returned (.int .i64 (plchk p)) ∧ Below w.heap.size w w' := by
  obtain ⟨ca, cc, rfl⟩ := hp.code.form
  obtain ⟨sa, sc, rfl⟩ := hp.spans.form
  obtain ⟨wa, wc, rfl⟩ := hp.wires.form
  have HP : Hid (Pln w (.slice ca p.code.length cc) (.slice sa p.spans.length sc) (.slice wa p.wires.length wc) p) := hp
  clear hp
  unfold plV
  have hx0 := Bx.first w (.slice ca p.code.length cc) p.ticks (.slice sa p.spans.length sc) (.slice wa p.wires.length wc)
  by_cases h5 : 5 < p.code.length
  · have h5i : (5 : Int) < (p.code.length : Int) := by omega
    have HF : Hid (plchk p = 4) := plchk_long h5
    go_enter Tryd.func4, Tryd.ntmps4
    go_wp2
    go_ret
    rw [HF.out]
    exact ⟨rfl, hx0.below⟩
  have h5i : decide ((5 : Int) < (p.code.length : Int)) = false := decide_eq_false (by omega)
  have h5n : decide (5 < p.code.length) = false := decide_eq_false (by omega)
  have h5' : p.code.length ≤ 5 := by omega
  by_cases h0 : p.code.length = 0
  · have HF : Hid (plchk p = 5) := plchk_none h0
    rw [h0]
    rw [h0] at hx0
    clear h0 h5 h5i h5n h5'
    go_enter Tryd.func4, Tryd.ntmps4
    go_wp2
    go_ret
    rw [HF.out]
    exact ⟨rfl, hx0.below⟩
  have h0i : ¬ ((p.code.length : Int) = 0) := by omega
  have hf := fun W (hb : Below w.heap.size w W) => refframe_any p.ticks p.spans _ W (HP.out.spans.all hb)
  have HW : Hid (∀ W, Below w.heap.size w W → Calls Tryd.prog 12 #[.slice wa p.wires.length wc] W fun e w' => e = .returned (.tuple #[.int .i64 (wschk p.wires).1, .int .i64 (wschk p.wires).2]) ∧ Below W.heap.size W w') := fun W hb => refwires_any p.wires _ W (HP.out.wires.all hb)
  by_cases hfr : (fchk p.ticks p.spans).2 = 0
  · by_cases hwr : (wschk p.wires).2 = 0
    · rw [hfr] at hf
      rw [hwr] at HW
      have HSP : Hid (p.spans.any (spanOut p.code.length) = true → plchk p = 1) := fun h => plchk_span h5' h0 hfr hwr h
      have HWR : Hid (p.spans.any (spanOut p.code.length) = false → p.wires.any (wireOut p.code.length) = true → plchk p = 1) := fun h1 h => plchk_wire h5' h0 hfr hwr h1 h
      have HTL : Hid (p.spans.any (spanOut p.code.length) = false → p.wires.any (wireOut p.code.length) = false → plchk p = if codesE p.code ≠ 0 then codesE p.code else if portsAny p.wires 0 p.code = true then 3 else 0) := fun h1 h => plchk_tail h5' h0 hfr hwr h1 h
      have hsl : p.spans.length ≤ 12 := (fchk_zero hfr).2.2.1
      have hwl : p.wires.length ≤ 12 := (wschk_ok hwr).1
      generalize (fchk p.ticks p.spans).1 = f1 at hf
      generalize (wschk p.wires).1 = g1 at HW
      clear hfr hwr
      have q1 := hf _ hx0.below
      clear hf
      go_enter Tryd.func4, Tryd.ntmps4
      go_wp2_with (first
        | (go_at_call 11; refine q1.mono ?_; rintro e w1 ⟨rfl, b1⟩; clear q1; have hx1 := hx0.step b1; have k3 := hx1.c3; have q2 := HW.out w1 hx1.below; clear b1 HW)
        | (go_at_call 12; refine q2.mono ?_; rintro e w2 ⟨rfl, b2⟩; clear q2 k3; have hx2 := hx1.step b2; clear b2 hx1))
      go_loopw [5] (fun i wr => ∃ k : Nat, k ≤ p.spans.length ∧ i = .int .i64 k ∧ Hid (∀ (j : Nat) y, j < k → p.spans[j]? = some y → spanOut p.code.length y = false) ∧ Bx w wr (.slice ca p.code.length cc) p.ticks (.slice sa p.spans.length sc) (.slice wa p.wires.length wc)) (fun i _ => p.spans.length - (intOf i).toNat)
      case atStart => exact ⟨0, Nat.zero_le _, rfl, fun j y hj => by omega, hx2⟩
      case round =>
      clear hx0 hx2
      obtain ⟨k, hk, rfl, HS, hx⟩ := hrel
      have k0 := hx.c0
      have k2 := hx.c2
      by_cases hkl : k < p.spans.length
      · have hki : (k : Int) < (p.spans.length : Int) := by omega
        obtain ⟨b, off, f, t, r, rfl, hlt, hy, _, _, d2⟩ := HP.out.spans.at hkl
        replace d2 := (hx.below.cell (p := ⟨b, _, none⟩) hlt).trans d2
        have HY : Hid (p.spans[k]? = some (f, t, r)) := hy
        clear hy
        by_cases hd : (p.code.length : Int) ≤ r
        · have HF : Hid (plchk p = 1) := HSP.out (any_hit HY.out (by simp [spanOut, hd]))
          clear HY HSP HWR HTL
          go_wp2
          go_quiet (fail)
          go_wp2
          go_ret
          rw [HF.out]
          exact ⟨rfl, (hx.dN _).below⟩
        · have hd' : decide ((p.code.length : Int) ≤ r) = false := by simpa using hd
          have HN : Hid (spanOut p.code.length (f, t, r) = false) := by show _ = _; simp [spanOut]; omega
          go_wp2
          go_quiet (fail)
          go_wp2
          go_roundw
          case rel => exact ⟨k + 1, by omega, by go_num, upto_next HS.out HY.out HN.out, hx.dN _⟩
          case measure => simp [intOf]; omega
      have hki : decide ((k : Int) < (p.spans.length : Int)) = false := decide_eq_false (by omega)
      have hkn : decide (k < p.spans.length) = false := decide_eq_false (by omega)
      have HSF : Hid (p.spans.any (spanOut p.code.length) = false) := any_false (fun j y hj hy => HS.out j y (by omega) hy)
      clear HS HSP
      go_wp2
      rename World => wo
      go_loopw [6] (fun i wr => ∃ k : Nat, k ≤ p.wires.length ∧ i = .int .i64 k ∧ Hid (∀ (j : Nat) y, j < k → p.wires[j]? = some y → wireOut p.code.length y = false) ∧ Bx w wr (.slice ca p.code.length cc) p.ticks (.slice sa p.spans.length sc) (.slice wa p.wires.length wc)) (fun i _ => p.wires.length - (intOf i).toNat)
      case atStart => exact ⟨0, Nat.zero_le _, rfl, fun j y hj => by omega, hx⟩
      case round =>
      clear hx k0 k2 hkl hki hkn hk
      obtain ⟨k, hk, rfl, HS, hx⟩ := hrel
      have k0 := hx.c0
      have k3 := hx.c3
      by_cases hkl : k < p.wires.length
      · have hki : (k : Int) < (p.wires.length : Int) := by omega
        obtain ⟨b, off, f, t, kd, d, rfl, hlt, hy, d0, d1, _, _⟩ := HP.out.wires.at hkl
        replace d0 := (hx.below.cell (p := ⟨b, _, none⟩) hlt).trans d0
        replace d1 := (hx.below.cell (p := ⟨b, _, none⟩) hlt).trans d1
        have HY : Hid (p.wires[k]? = some (f, t, kd, d)) := hy
        clear hy
        by_cases hd : (p.code.length : Int) ≤ f
        · have HF : Hid (plchk p = 1) := HWR.out HSF.out (any_hit HY.out (by simp [wireOut, hd]))
          clear HY HWR HTL
          go_wp2
          go_quiet (fail)
          go_wp2
          go_ret
          rw [HF.out]
          exact ⟨rfl, (hx.dN _).below⟩
        · have hd' : decide ((p.code.length : Int) ≤ f) = false := by simpa using hd
          by_cases he : (p.code.length : Int) ≤ t
          · have HF : Hid (plchk p = 1) := HWR.out HSF.out (any_hit HY.out (by simp [wireOut, he]))
            clear HY HWR HTL
            go_wp2
            go_quiet (fail)
            go_wp2
            go_ret
            rw [HF.out]
            exact ⟨rfl, (hx.dN _).below⟩
          · have he' : decide ((p.code.length : Int) ≤ t) = false := by simpa using he
            have HN : Hid (wireOut p.code.length (f, t, kd, d) = false) := by show _ = _; simp [wireOut]; omega
            go_wp2
            go_quiet (fail)
            go_wp2
            go_roundw
            case rel => exact ⟨k + 1, by omega, by go_num, upto_next HS.out HY.out HN.out, hx.dN _⟩
            case measure => simp [intOf]; omega
      have hki : decide ((k : Int) < (p.wires.length : Int)) = false := decide_eq_false (by omega)
      have hkn : decide (k < p.wires.length) = false := decide_eq_false (by omega)
      have HT : Hid (plchk p = if codesE p.code ≠ 0 then codesE p.code else if portsAny p.wires 0 p.code = true then 3 else 0) := HTL.out HSF.out (any_false (fun j y hj hy => HS.out j y (by omega) hy))
      clear HS HWR HTL HSF
      go_wp2
      rename World => wp
      go_loopw [4, 7] (fun q i wr => ∃ k : Nat, k ≤ p.code.length ∧ i = .int .i64 k ∧ q = .int .i64 0 ∧ Hid (∀ (j : Nat) y, j < k → p.code[j]? = some y → (chk y).2 = 0) ∧ Bx w wr (.slice ca p.code.length cc) p.ticks (.slice sa p.spans.length sc) (.slice wa p.wires.length wc)) (fun _ i _ => p.code.length - (intOf i).toNat)
      case atStart => exact ⟨0, Nat.zero_le _, rfl, rfl, fun j y hj => by omega, hx⟩
      case round =>
      clear hx k0 k3 hkl hki hkn hk
      obtain ⟨k, hk, rfl, rfl, HS, hx⟩ := hrel
      have k0 := hx.c0
      by_cases hkl : k < p.code.length
      · have hki : (k : Int) < (p.code.length : Int) := by omega
        obtain ⟨b, off, u, n, g, c, rfl, hlt, hy, d0, hn, ho⟩ := HP.out.code.at hkl
        replace d0 := (hx.below.cell (p := ⟨b, _, none⟩) hlt).trans d0
        have HY : Hid (p.code[k]? = some c) := hy
        have q1 := refcode_any _ c wr (ho.all hx.below)
        clear hy ho hn
        by_cases hz : (chk c).2 = 0
        · have HZ : Hid ((chk c).2 = 0) := hz
          rw [hz] at q1
          generalize (chk c).1 = c1 at q1
          clear hz
          go_wp2_with (go_at_call 13; refine q1.mono ?_; rintro e w1 ⟨rfl, b1⟩; clear q1)
          go_roundw
          case rel =>
            refine ⟨k + 1, by omega, by go_num, rfl, fun j y hj hj2 => ?_, hx.step b1⟩
            by_cases hjk : j < k
            · exact HS.out j y hjk hj2
            · obtain rfl : j = k := by omega
              rw [HY.out] at hj2
              obtain rfl := Option.some.inj hj2
              exact HZ.out
          case measure => simp [intOf]; omega
        · have hce := codesE_hit HS.out HY.out hz
          have HF : Hid (plchk p = (chk c).2) := by show _ = _; rw [HT.out, hce, if_pos hz]
          clear hce HT HY HS
          generalize (chk c).1 = c1 at q1
          generalize (chk c).2 = c2 at q1 HF hz
          have hzb : (c2 == 0) = false := by simpa using hz
          go_wp2_with (go_at_call 13; refine q1.mono ?_; rintro e w1 ⟨rfl, b1⟩; clear q1)
          go_ret
          rw [HF.out]
          exact ⟨rfl, (hx.step b1).below⟩
      have hki : decide ((k : Int) < (p.code.length : Int)) = false := decide_eq_false (by omega)
      have hkn : decide (k < p.code.length) = false := decide_eq_false (by omega)
      have hce := codesE_ok (l := p.code) (fun j y hj hy => HS.out j y (by omega) hy)
      have HC : Hid (∀ (j : Nat) y, p.code[j]? = some y → (chk y).2 = 0) := fun j y hy => HS.out j y (by have := (List.getElem?_eq_some_iff.1 hy).1; omega) hy
      have HE : Hid (plchk p = if portsAny p.wires 0 p.code = true then 3 else 0) := by show _ = _; rw [HT.out, hce, if_neg (by simp)]
      clear hce HT HS
      go_wp2
      -- PORTS
      rename World => wq
      go_loopw [8] (fun i wr => ∃ k : Nat, k ≤ p.code.length ∧ i = .int .i64 k ∧ Hid (∀ (j : Nat) y, j < k → p.code[j]? = some y → portsB p.wires j y = false) ∧ Bx w wr (.slice ca p.code.length cc) p.ticks (.slice sa p.spans.length sc) (.slice wa p.wires.length wc)) (fun i _ => p.code.length - (intOf i).toNat)
      case atStart => exact ⟨0, Nat.zero_le _, rfl, fun j y hj => by omega, hx⟩
      case round =>
      clear hx k0 hkl hki hkn hk
      obtain ⟨k, hk, rfl, HS, hx⟩ := hrel
      have k0 := hx.c0
      by_cases hkl : k < p.code.length
      · have hki : (k : Int) < (p.code.length : Int) := by omega
        obtain ⟨b, off, u, n, g, c, rfl, hlt, hy, d0, hn, ho⟩ := HP.out.code.at hkl
        have HY : Hid (p.code[k]? = some c) := hy
        have HPB : Hid (portsB p.wires k c = true → plchk p = 3) := fun hh => by rw [HE.out, portsAny_hit HS.out HY.out hh, if_pos rfl]
        have HD : Hid (∀ W, Below w.heap.size w W → W.cell? ⟨b, off + k, none⟩ = some (.slice u n g)) := fun W hW => (hW.cell (p := ⟨b, _, none⟩) hlt).trans d0
        have HPT : Hid (∀ (what : Int) W, what = 8 ∨ what = 9 → Below w.heap.size w W → Calls Tryd.prog 14 #[.slice u n g, .int .i64 what] W fun e w' => ∃ v', e = .returned v' ∧ Ints w' v' (wiresB what c) ∧ Below W.heap.size W w') := fun what W hw hW => ports_any what _ c W (ho.all hW) (HC.out k c hy) hw
        have q1 := HPT.out 8 wr (Or.inl rfl) hx.below
        replace d0 := HD.out wr hx.below
        clear hy ho hn
        have hx' := hx
        go_wp2_with (first
          | (go_at_call 14; refine q1.mono ?_; rintro e w1 ⟨v1, rfl, i1, b1⟩; clear q1 d0; have hx1 := hx'.step b1; have d0 := HD.out w1 hx1.below; have k0 := hx1.c0; have q2 := HPT.out 9 w1 (Or.inr rfl) hx1.below; obtain ⟨o1, c1, e1, _⟩ := ints_form i1; subst e1)
          | (go_at_call 14; refine q2.mono ?_; rintro e w2 ⟨v2, rfl, i2, b2⟩; clear q2 d0; have hx2 := hx1.step b2; have HA1 : Hid (Stp w2 (.slice o1 (wiresB 8 c).length c1) (wiresB 8 c)) := stp_of_ints (ints_all i1 b2); have HA2 : Hid (Stp w2 v2 (wiresB 9 c)) := stp_of_ints i2; obtain ⟨o2', c2, e2, _⟩ := ints_form i2; subst e2; clear i1 i2))
        have HZ11 : Hid (∀ z, ∀ {i : Nat}, (wiresB 8 c)[i]? = some z → z ∈ wiresB 8 c) := fun z i h => List.mem_of_getElem? h
        have HZ12 : Hid (∀ z, ∀ {i : Nat}, (wiresB 9 c)[i]? = some z → z ∈ wiresB 9 c) := fun z i h => List.mem_of_getElem? h
        have hl8 := wires_len 8 c
        have hl9 := wires_len 9 c
        clear k0 hx hx' hx1 b1 b2 HD HPT hlt
        go_loopw [11] (fun i wr => ∃ m : Nat, m ≤ (wiresB 8 c).length ∧ i = .int .i64 m ∧ Hid (∀ (j : Nat) y, j < m → (wiresB 8 c)[j]? = some y → portB (·.1) p.wires k y = false) ∧ Below w2.heap.size w2 wr) (fun i _ => (wiresB 8 c).length - (intOf i).toNat)
        case atStart => exact ⟨0, Nat.zero_le _, rfl, fun j y hj => by omega, Below.refl _ _⟩
        case round =>
        obtain ⟨m, hm, rfl, HM, hB11⟩ := hrel
        have hxr := hx2.step hB11
        have k3 := hxr.c3
        by_cases hml : m < (wiresB 8 c).length
        · have hmi : (m : Int) < ((wiresB 8 c).length : Int) := by omega
          obtain ⟨b', o', z, rfl, e0, hz⟩ := Stp.at HA1.out hB11 hml
          have hzr := wires_mem (HZ11.out z hz)
          obtain ⟨zn, rfl⟩ : ∃ n : Nat, z = n := ⟨z.toNat, by omega⟩
          have HZ : Hid ((wiresB 8 c)[m]? = some (zn : Int)) := hz
          clear hz hzr
          by_cases hzl : p.wires.length ≤ zn
          · have hzi : (p.wires.length : Int) ≤ (zn : Int) := by omega
            have HF : Hid (plchk p = 3) := HPB.out (port_out (any_hit HZ.out (by unfold portB; rw [Int.toNat_natCast, List.getElem?_eq_none hzl])))
            clear HZ HM
            go_wp2
            go_quiet (fail)
            go_wp2
            go_ret
            rw [HF.out]
            exact ⟨rfl, (hxr.dN _).below⟩
          · have hzi : decide ((p.wires.length : Int) ≤ (zn : Int)) = false := decide_eq_false (by omega)
            have hzn : decide (p.wires.length ≤ zn) = false := decide_eq_false (by omega)
            have hzl' : (zn : Int) < (p.wires.length : Int) := by omega
            obtain ⟨b2, o2, f, t, kd, d, rfl, hlt2, hy2, d0, d1, _, _⟩ := HP.out.wires.at (show zn < p.wires.length by omega)
            replace d0 := (hxr.below.cell (p := ⟨b2, _, none⟩) hlt2).trans d0
            replace d1 := (hxr.below.cell (p := ⟨b2, _, none⟩) hlt2).trans d1
            have hpv : portB (·.1) p.wires k (zn : Int) = !decide (f = (k : Int)) := by unfold portB; rw [Int.toNat_natCast, hy2]
            by_cases hfk : f = (k : Int)
            · have HN : Hid (portB (·.1) p.wires k (zn : Int) = false) := by show _ = _; rw [hpv, decide_eq_true hfk]; rfl
              clear hpv hy2
              rw [hfk] at d0
              clear hfk
              go_wp2
              go_quiet (fail)
              go_wp2
              go_roundw
              case rel => exact ⟨m + 1, by omega, by go_num, upto_next HM.out HZ.out HN.out, below_dN hB11 _⟩
              case measure => simp [intOf]; omega
            · have HF : Hid (plchk p = 3) := HPB.out (port_out (any_hit HZ.out (by rw [hpv, decide_eq_false hfk]; rfl)))
              have hfb : (f == (k : Int)) = false := by simpa using hfk
              clear hpv hy2 HZ HM
              go_wp2
              go_quiet (fail)
              go_wp2
              go_ret
              rw [HF.out]
              exact ⟨rfl, (hxr.dN _).below⟩
        have hmi : decide ((m : Int) < ((wiresB 8 c).length : Int)) = false := decide_eq_false (by omega)
        have hmn : decide (m < (wiresB 8 c).length) = false := decide_eq_false (by omega)
        have HN11 : Hid ((wiresB 8 c).any (portB (·.1) p.wires k) = false) := any_false (fun j y hj hy => HM.out j y (by omega) hy)

        go_wp2
        rename World => w3
        go_loopw [12] (fun i wr => ∃ m : Nat, m ≤ (wiresB 9 c).length ∧ i = .int .i64 m ∧ Hid (∀ (j : Nat) y, j < m → (wiresB 9 c)[j]? = some y → portB (·.2.1) p.wires k y = false) ∧ Below w2.heap.size w2 wr) (fun i _ => (wiresB 9 c).length - (intOf i).toNat)
        case atStart => exact ⟨0, Nat.zero_le _, rfl, fun j y hj => by omega, hB11⟩
        case round =>
        obtain ⟨m, hm, rfl, HM, hB12⟩ := hrel
        have hxr := hx2.step hB12
        have k3 := hxr.c3
        by_cases hml : m < (wiresB 9 c).length
        · have hmi : (m : Int) < ((wiresB 9 c).length : Int) := by omega
          obtain ⟨b', o', z, rfl, e0, hz⟩ := Stp.at HA2.out hB12 hml
          have hzr := wires_mem (HZ12.out z hz)
          obtain ⟨zn, rfl⟩ : ∃ n : Nat, z = n := ⟨z.toNat, by omega⟩
          have HZ : Hid ((wiresB 9 c)[m]? = some (zn : Int)) := hz
          clear hz hzr
          by_cases hzl : p.wires.length ≤ zn
          · have hzi : (p.wires.length : Int) ≤ (zn : Int) := by omega
            have HF : Hid (plchk p = 3) := HPB.out (port_in (any_hit HZ.out (by unfold portB; rw [Int.toNat_natCast, List.getElem?_eq_none hzl])))
            clear HZ HM
            go_wp2
            go_quiet (fail)
            go_wp2
            go_ret
            rw [HF.out]
            exact ⟨rfl, (hxr.dN _).below⟩
          · have hzi : decide ((p.wires.length : Int) ≤ (zn : Int)) = false := decide_eq_false (by omega)
            have hzn : decide (p.wires.length ≤ zn) = false := decide_eq_false (by omega)
            have hzl' : (zn : Int) < (p.wires.length : Int) := by omega
            obtain ⟨b2, o2, f, t, kd, d, rfl, hlt2, hy2, d0, d1, _, _⟩ := HP.out.wires.at (show zn < p.wires.length by omega)
            replace d0 := (hxr.below.cell (p := ⟨b2, _, none⟩) hlt2).trans d0
            replace d1 := (hxr.below.cell (p := ⟨b2, _, none⟩) hlt2).trans d1
            have hpv : portB (·.2.1) p.wires k (zn : Int) = !decide (t = (k : Int)) := by unfold portB; rw [Int.toNat_natCast, hy2]
            by_cases hfk : t = (k : Int)
            · have HN : Hid (portB (·.2.1) p.wires k (zn : Int) = false) := by show _ = _; rw [hpv, decide_eq_true hfk]; rfl
              clear hpv hy2
              rw [hfk] at d1
              clear hfk
              go_wp2
              go_quiet (fail)
              go_wp2
              go_roundw
              case rel => exact ⟨m + 1, by omega, by go_num, upto_next HM.out HZ.out HN.out, below_dN hB12 _⟩
              case measure => simp [intOf]; omega
            · have HF : Hid (plchk p = 3) := HPB.out (port_in (any_hit HZ.out (by rw [hpv, decide_eq_false hfk]; rfl)))
              have hfb : (t == (k : Int)) = false := by simpa using hfk
              clear hpv hy2 HZ HM
              go_wp2
              go_quiet (fail)
              go_wp2
              go_ret
              rw [HF.out]
              exact ⟨rfl, (hxr.dN _).below⟩
        have hmi : decide ((m : Int) < ((wiresB 9 c).length : Int)) = false := decide_eq_false (by omega)
        have hmn : decide (m < (wiresB 9 c).length) = false := decide_eq_false (by omega)
        have HN12 : Hid ((wiresB 9 c).any (portB (·.2.1) p.wires k) = false) := any_false (fun j y hj hy => HM.out j y (by omega) hy)

        have HNN : Hid (portsB p.wires k c = false) := by show _ = _; unfold portsB; rw [HN11.out, HN12.out]; rfl
        go_wp2
        go_roundw
        case rel => exact ⟨k + 1, by omega, by go_num, ports_next HS.out HY.out HNN.out, hxr⟩
        case measure => simp [intOf]; omega
      · have hki : decide ((k : Int) < (p.code.length : Int)) = false := decide_eq_false (by omega)
        have hkn : decide (k < p.code.length) = false := decide_eq_false (by omega)
        have HF : Hid (plchk p = 0) := by show _ = _; rw [HE.out, portsAny_ok (fun j y hj hy => HS.out j y (by omega) hy), if_neg (by simp)]
        clear HE HS
        go_wp2
        go_ret
        rw [HF.out]
        exact ⟨rfl, hx.below⟩
      -- END
    · have HF : Hid (plchk p = (wschk p.wires).2) := plchk_wires h5' h0 hfr hwr
      rw [hfr] at hf
      generalize (fchk p.ticks p.spans).1 = f1 at hf
      generalize (wschk p.wires).1 = g1 at HW
      generalize (wschk p.wires).2 = g2 at HW HF hwr
      have hzb : (g2 == 0) = false := by simpa using hwr
      have q1 := hf _ hx0.below
      clear hf hfr
      go_enter Tryd.func4, Tryd.ntmps4
      go_wp2_with (first
        | (go_at_call 11; refine q1.mono ?_; rintro e w1 ⟨rfl, b1⟩; clear q1; have hx1 := hx0.step b1; have k3 := hx1.c3; have q2 := HW.out w1 hx1.below; clear b1 HW)
        | (go_at_call 12; refine q2.mono ?_; rintro e w2 ⟨rfl, b2⟩; clear q2 k3; have hx2 := hx1.step b2; clear b2 hx1))
      go_ret
      rw [HF.out]
      exact ⟨rfl, hx2.below⟩
  · have HF : Hid (plchk p = (fchk p.ticks p.spans).2) := plchk_frame h5' h0 hfr
    generalize (fchk p.ticks p.spans).1 = f1 at hf
    generalize (fchk p.ticks p.spans).2 = f2 at hf HF hfr
    have hzb : (f2 == 0) = false := by simpa using hfr
    have q1 := hf _ hx0.below
    clear hf HW
    go_enter Tryd.func4, Tryd.ntmps4
    go_wp2_with (go_at_call 11; refine q1.mono ?_; rintro e w1 ⟨rfl, b1⟩; clear q1; have hx1 := hx0.step b1; clear b1)
    go_ret
    rw [HF.out]
    exact ⟨rfl, hx1.below⟩
end Go.Proofs.YtanndhamnfnjfafDoor
namespace Go.Proofs.YtanndhamnfnjfafDoor
open Go.RowKit

theorem below_st8 {B : Nat} {w w' : World} (h : Below B w w') (b : Nat) (hb : B ≤ b) (x0 x1 x2 x3 x4 x5 x6 x7 : Value) : Below B w ((((((((w'.setCell ⟨b, 0, none⟩ x0).setCell ⟨b, 1, none⟩ x1).setCell ⟨b, 2, none⟩ x2).setCell ⟨b, 3, none⟩ x3).setCell ⟨b, 4, none⟩ x4).setCell ⟨b, 5, none⟩ x5).setCell ⟨b, 6, none⟩ x6).setCell ⟨b, 7, none⟩ x7) :=
  (((((((h.setCell (p := ⟨b, 0, none⟩) hb x0).setCell (p := ⟨b, 1, none⟩) hb x1).setCell (p := ⟨b, 2, none⟩) hb x2).setCell (p := ⟨b, 3, none⟩) hb x3).setCell (p := ⟨b, 4, none⟩) hb x4).setCell (p := ⟨b, 5, none⟩) hb x5).setCell (p := ⟨b, 6, none⟩) hb x6).setCell (p := ⟨b, 7, none⟩) hb x7
/-- A state is written into a new block. -/
theorem zst_set {w : World} {b : Nat} (h : w.heap[b]? = some (.cells #[.int .i64 0, .int .i64 0, .int .i64 0, .int .i64 0, .int .i64 0, .int .i64 0, .int .i64 0, .bool false] 39)) (s : St) : ((((((((w.setCell ⟨b, 0, none⟩ (.int .i64 s.p)).setCell ⟨b, 1, none⟩ (.int .i64 (s.c 0))).setCell ⟨b, 2, none⟩ (.int .i64 (s.c 1))).setCell ⟨b, 3, none⟩ (.int .i64 (s.c 2))).setCell ⟨b, 4, none⟩ (.int .i64 (s.c 3))).setCell ⟨b, 5, none⟩ (.int .i64 (s.c 4))).setCell ⟨b, 6, none⟩ (.int .i64 (s.c 5))).setCell ⟨b, 7, none⟩ (.bool s.f)).heap[b]? = some (.cells #[.int .i64 s.p, .int .i64 (s.c 0), .int .i64 (s.c 1), .int .i64 (s.c 2), .int .i64 (s.c 3), .int .i64 (s.c 4), .int .i64 (s.c 5), .bool s.f] 39) := by
  simp [World.setCell, Array.getElem?_modify, h]
theorem touch_st (w : World) (b : Nat) (x0 x1 x2 x3 x4 x5 x6 x7 : Value) : KTouch [b] w ((((((((w.setCell ⟨b, 2, none⟩ x0).setCell ⟨b, 3, none⟩ x1).setCell ⟨b, 4, none⟩ x2).setCell ⟨b, 5, none⟩ x3).setCell ⟨b, 6, none⟩ x4).setCell ⟨b, 7, none⟩ x5).setCell ⟨b, 8, none⟩ x6).setCell ⟨b, 9, none⟩ x7) :=
  have hm : b ∈ [b] := by simp
  (((((((KTouch.set w hm 2 x0).trans (KTouch.set _ hm 3 x1)).trans (KTouch.set _ hm 4 x2)).trans (KTouch.set _ hm 5 x3)).trans (KTouch.set _ hm 6 x4)).trans (KTouch.set _ hm 7 x5)).trans (KTouch.set _ hm 8 x6)).trans (KTouch.set _ hm 9 x7)
end Go.Proofs.YtanndhamnfnjfafDoor
namespace Go.Proofs.YtanndhamnfnjfafDoor
open Go.RowKit

/-- Its block. -/
def gaO (cv : Value) (a : AD) : Obj := .cells #[cv, .int .i64 a.r, .int .i64 a.s.p, .int .i64 (a.s.c 0), .int .i64 (a.s.c 1), .int .i64 (a.s.c 2), .int .i64 (a.s.c 3), .int .i64 (a.s.c 4), .int .i64 (a.s.c 5), .bool a.s.f, .int .i64 a.t] 68 (0, 0)
structure GA (w : World) (base : Nat) (a : AD) (ab : Nat) (cv : Value) (F0 : List Nat) : Prop where
  blk : w.heap[ab]? = some (gaO cv a)
  src : ∀ w', w.heap.size ≤ w'.heap.size → (∀ b ∈ F0, w'.heap[b]? = w.heap[b]?) → Ops w' cv a.c
  ge : ∀ g ∈ ab :: F0, base ≤ g
  lt : ∀ g ∈ F0, g < w.heap.size
  ap : ab ∉ F0
  tn : 0 ≤ a.t
theorem GA.abl {w : World} {base ab : Nat} {a : AD} {cv : Value} {F0 : List Nat} (h : GA w base a ab cv F0) : ab < w.heap.size := (Array.getElem?_eq_some_iff.1 h.blk).1
theorem GA.ops {w : World} {base ab : Nat} {a : AD} {cv : Value} {F0 : List Nat} (h : GA w base a ab cv F0) : Ops w cv a.c := h.src w (Nat.le_refl _) (fun _ _ => rfl)
theorem GA.flt {w : World} {base ab : Nat} {a : AD} {cv : Value} {F0 : List Nat} (h : GA w base a ab cv F0) : ∀ g ∈ ab :: F0, g < w.heap.size := fun g hg => by
  rcases List.mem_cons.1 hg with e | e
  · rw [e]; exact h.abl
  · exact h.lt g e
theorem GA.frame {w w' : World} {base ab : Nat} {a : AD} {cv : Value} {F0 : List Nat} (h : GA w base a ab cv F0) {M : List Nat} (ht : KTouch M w w') (hM : ∀ m ∈ M, m ∉ ab :: F0) : GA w' base a ab cv F0 := by
  have hb : ∀ g ∈ ab :: F0, w'.heap[g]? = w.heap[g]? := fun g hg => ht.block g (h.flt g hg) (fun hm => hM g hm hg)
  exact ⟨(hb ab (by simp)).trans h.blk, fun w2 h2 hb2 => h.src w2 (Nat.le_trans ht.size h2) (fun b hm => (hb2 b hm).trans (hb b (by simp [hm]))), h.ge, fun g hg => Nat.lt_of_lt_of_le (h.lt g hg) ht.size, h.ap, h.tn⟩
theorem GA.all {w w' : World} {base ab : Nat} {a : AD} {cv : Value} {F0 : List Nat} (h : GA w base a ab cv F0) (hb : Below w.heap.size w w') : GA w' base a ab cv F0 := h.frame (M := []) (KTouch.of hb) (by simp)
theorem GA.lower {w : World} {base base' ab : Nat} {a : AD} {cv : Value} {F0 : List Nat} (h : GA w base a ab cv F0) (hb : base' ≤ base) : GA w base' a ab cv F0 := ⟨h.blk, h.src, fun g hg => Nat.le_trans hb (h.ge g hg), h.lt, h.ap, h.tn⟩
/-- Its own block is another one. -/
theorem GA.set {w w' : World} {base ab : Nat} {a a' : AD} {cv : Value} {F0 : List Nat} (h : GA w base a ab cv F0) (ht : KTouch [ab] w w') (hb : w'.heap[ab]? = some (gaO cv a')) (hc : a'.c = a.c) (htn : 0 ≤ a'.t) : GA w' base a' ab cv F0 := by
  refine ⟨hb, fun w2 h2 hb2 => ?_, h.ge, fun g hg => Nat.lt_of_lt_of_le (h.lt g hg) ht.size, h.ap, htn⟩
  rw [hc]
  refine h.src w2 (Nat.le_trans ht.size h2) (fun b hm => (hb2 b hm).trans (ht.block b (h.lt b hm) (fun e => ?_)))
  rw [List.mem_singleton] at e
  subst e
  exact h.ap hm
theorem gaO_cs {w : World} {ab : Nat} {cv : Value} {a : AD} (h : w.heap[ab]? = some (gaO cv a)) : w.cell? ⟨ab, 0, none⟩ = some cv ∧ w.cell? ⟨ab, 1, none⟩ = some (.int .i64 a.r) ∧ w.cell? ⟨ab, 2, none⟩ = some (.int .i64 a.s.p) ∧ w.cell? ⟨ab, 3, none⟩ = some (.int .i64 (a.s.c 0)) ∧ w.cell? ⟨ab, 4, none⟩ = some (.int .i64 (a.s.c 1)) ∧ w.cell? ⟨ab, 5, none⟩ = some (.int .i64 (a.s.c 2)) ∧ w.cell? ⟨ab, 6, none⟩ = some (.int .i64 (a.s.c 3)) ∧ w.cell? ⟨ab, 7, none⟩ = some (.int .i64 (a.s.c 4)) ∧ w.cell? ⟨ab, 8, none⟩ = some (.int .i64 (a.s.c 5)) ∧ w.cell? ⟨ab, 9, none⟩ = some (.bool a.s.f) ∧ w.cell? ⟨ab, 10, none⟩ = some (.int .i64 a.t) := by
  unfold gaO at h
  simp [World.cell?, h]
theorem gaO_fz {w : World} {ab : Nat} {cv : Value} {a : AD} (h : w.heap[ab]? = some (gaO cv a)) (o : Nat) : w.frozen? ⟨ab, o, none⟩ = false := by
  unfold gaO at h
  simp [World.frozen?, h]
/-- Its state is written. -/
theorem gaO_set {w : World} {ab : Nat} {cv : Value} {a : AD} (h : w.heap[ab]? = some (gaO cv a)) (s : St) : ((((((((w.setCell ⟨ab, 2, none⟩ (.int .i64 s.p)).setCell ⟨ab, 3, none⟩ (.int .i64 (s.c 0))).setCell ⟨ab, 4, none⟩ (.int .i64 (s.c 1))).setCell ⟨ab, 5, none⟩ (.int .i64 (s.c 2))).setCell ⟨ab, 6, none⟩ (.int .i64 (s.c 3))).setCell ⟨ab, 7, none⟩ (.int .i64 (s.c 4))).setCell ⟨ab, 8, none⟩ (.int .i64 (s.c 5))).setCell ⟨ab, 9, none⟩ (.bool s.f)).heap[ab]? = some (gaO cv ⟨a.c, a.r, s, a.t⟩) := by
  unfold gaO at h ⊢
  simp [World.setCell, Array.getElem?_modify, h]
theorem gaO_turn {w : World} {ab : Nat} {cv : Value} {a : AD} (h : w.heap[ab]? = some (gaO cv a)) (t : Int) : (w.setCell ⟨ab, 10, none⟩ (.int .i64 t)).heap[ab]? = some (gaO cv ⟨a.c, a.r, a.s, t⟩) := by
  unfold gaO at h ⊢
  simp [World.setCell, Array.getElem?_modify, h]
end Go.Proofs.YtanndhamnfnjfafDoor
namespace Go.Proofs.YtanndhamnfnjfafDoor
open Go.RowKit

def cameF (a : Int) (f f' is : Bool) : Int := if f = true then 5 else if f' = true then 4 else if a = 9 then (if is = true then 2 else 3) else if a = 8 then 1 else 0
theorem came_what (o : O3) (s : St) (n : Nat) (got : Int) (is : Bool) : cameF o.1 s.f (stepF o s n got is).f is = whatF o s is := by
  have hsf : (stepF o s n got is).f = if s.f = true then true else decide (o.1 = 11) := by
    unfold stepF
    cases hq : s.f <;> simp [hq]
  rw [hsf]
  unfold cameF whatF
  cases s.f with
  | true => simp
  | false =>
    simp only [Bool.false_eq_true, if_false, decide_eq_true_eq]
    by_cases h11 : o.1 = 11
    · rw [if_pos h11, if_neg (show ¬ o.1 = 8 by omega), if_neg (show ¬ o.1 = 9 by omega), if_pos h11]
    · rw [if_neg h11, if_neg h11]
      by_cases h9 : o.1 = 9
      · rw [if_pos h9, if_neg (show ¬ o.1 = 8 by omega), if_pos h9]
      · rw [if_neg h9, if_neg h9]
set_option maxRecDepth 100000 in
set_option maxHeartbeats 4000000 in
theorem came_any (a b c : Int) (s s' : St) (is : Bool) (w : World) :
    Calls Tryd.prog 21 #[.agg #[.int .i64 a, .int .i64 b, .int .i64 c], stA s, stA s', .bool is] w fun e w' => e = .returned (.int .i64 (cameF a s.f s'.f is)) ∧ Below w.heap.size w w' := by
  have hb : ∀ x y z, Below w.heap.size w (((w.alloc x).alloc y).alloc z) := fun x y z => (((Below.refl _ _).alloc (Nat.le_refl _) _).alloc (by simp) _).alloc (by simp; omega) _
  unfold stA
  have go : ∀ (f f' : Bool) (p p' q0 q1 q2 q3 q4 q5 r0 r1 r2 r3 r4 r5 : Int), Calls Tryd.prog 21 #[.agg #[.int .i64 a, .int .i64 b, .int .i64 c], .agg #[.int .i64 p, .int .i64 q0, .int .i64 q1, .int .i64 q2, .int .i64 q3, .int .i64 q4, .int .i64 q5, .bool f], .agg #[.int .i64 p', .int .i64 r0, .int .i64 r1, .int .i64 r2, .int .i64 r3, .int .i64 r4, .int .i64 r5, .bool f'], .bool is] w fun e w' => e = .returned (.int .i64 (cameF a f f' is)) ∧ Below w.heap.size w w' := by
    intro f f' p p' q0 q1 q2 q3 q4 q5 r0 r1 r2 r3 r4 r5
    cases f with
    | true =>
      go_enter Tryd.func21, Tryd.ntmps21
      go_wp2
      go_ret
      exact ⟨rfl, hb _ _ _⟩
    | false =>
      cases f' with
      | true =>
        go_enter Tryd.func21, Tryd.ntmps21
        go_wp2
        go_ret
        exact ⟨rfl, hb _ _ _⟩
      | false =>
        by_cases h9 : a = 9
        · subst h9
          cases is <;>
          · go_enter Tryd.func21, Tryd.ntmps21
            go_wp2
            go_ret
            exact ⟨rfl, hb _ _ _⟩
        · have q9 : (a == 9) = false := by simp [h9]
          by_cases h8 : a = 8
          · subst h8
            go_enter Tryd.func21, Tryd.ntmps21
            go_wp2
            go_ret
            exact ⟨rfl, hb _ _ _⟩
          · have q8 : (a == 8) = false := by simp [h8]
            have e : cameF a false false is = 0 := by unfold cameF; simp [h9, h8]
            rw [e]
            clear e
            go_enter Tryd.func21, Tryd.ntmps21
            go_wp2
            go_ret
            exact ⟨rfl, hb _ _ _⟩
  exact go _ _ _ _ _ _ _ _ _ _ _ _ _ _ _ _
end Go.Proofs.YtanndhamnfnjfafDoor
