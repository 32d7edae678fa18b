/-
  KerPoke, StL, EvEq, IntsTwo, HdL, HdR, Trod, GPoke, KerGP: joined into one text.
-/
import Derived.Test.YteoemcekkcnpladDoorJa3
import Derived.Test.YteoemcekkcnpladDoorStEq
import Derived.Deep.RegionWith
import Derived.BigQuiet
import Derived.Test.YteoemcekkcnpladDoorJa1
import Derived.Laws.StructEq
import Derived.Test.YteoemcekkcnpladDoorRdL
import Derived.Deep.RegionHeld3
import Derived.Deep.CutRange
import Derived.Test.YteoemcekkcnpladDoorJa8
import Derived.Test.YteoemcekkcnpladDoorLaw
import Derived.Test.YteoemcekkcnpladDoorJa7
import Derived.Test.YteoemcekkcnpladDoorKerG
namespace Go.Proofs.YteoemcekkcnpladDoor
open Go.RowKit

def KerPoke {G : World → Prop} (C : KerC G) : Prop := ∀ {w0 W p vc vs vw k kb F} (r c n : Int), C.K w0 W p vc vs vw k kb F → KOk p k → plchk p = 0 → Calls Tryd.prog 20 #[.pointer (some ⟨kb, 0, none⟩), .int .i64 r, .int .i64 c, .int .i64 n] W fun e w' => e = .returned (wErr (pokeN k r c n)) ∧ ∃ F', C.K w0 w' p vc vs vw (pokeK k r c n) kb F' ∧ KTouch F W w' ∧ ∀ g ∈ F', g ∈ F ∨ W.heap.size ≤ g
end Go.Proofs.YteoemcekkcnpladDoor
namespace Go.Proofs.YteoemcekkcnpladDoor
open Go.RowKit

/-- States in a row that can be read. -/
def StL (w : World) (v : Value) (l : List St) : Prop :=
  (l = [] ∧ ∃ ao cap, v = .slice ao 0 cap) ∨ ∃ b off cap, v = .slice (some ⟨b, off, none⟩) l.length cap ∧ l.length ≤ cap ∧ b < w.heap.size ∧ ∀ (i : Nat) s, l[i]? = some s → StC w b (off + i * 8) s
theorem StL.form {w : World} {v : Value} {l : List St} (h : StL w v l) : ∃ ao cap, v = .slice ao l.length cap := by
  rcases h with ⟨rfl, ao, cap, rfl⟩ | ⟨b, off, cap, rfl, _⟩
  · exact ⟨ao, cap, rfl⟩
  · exact ⟨_, cap, rfl⟩
theorem StL.all {w w' : World} {v : Value} {l : List St} (h : StL w v l) (hb : Below w.heap.size w w') : StL w' v l := by
  rcases h with h | ⟨b, off, cap, rfl, hcap, hlt, hc⟩
  · exact Or.inl h
  · exact Or.inr ⟨b, off, cap, rfl, hcap, Nat.lt_of_lt_of_le hlt hb.size, fun i s hi => (hc i s hi).block (hb.block b hlt)⟩
theorem StL.own {w : World} {base : Nat} {v : Value} {l : List St} (h : w.ownsRow base 48 8 v l.length (stCells l)) : StL w v l := by
  have hl := h.lt
  have hcs := @World.ownsRow.cells _ _ _ _ _ _ _ h
  rcases h.2 with ⟨rfl, h0⟩ | ⟨g, cap, cur, rfl, _, _, hcap, _⟩
  · exact Or.inl ⟨List.eq_nil_of_length_eq_zero h0, _, _, rfl⟩
  · have hat : ∀ j u, (stCells l)[j]? = some u → w.cell? ⟨g, j, none⟩ = some u := fun j u hu => by
      have := hcs rfl j u hu
      rwa [Addr.add_lit, Nat.zero_add] at this
    refine Or.inr ⟨g, 0, cap, rfl, hcap, (hl g rfl).2, fun i s hs => ?_⟩
    obtain ⟨q0, q1, q2, q3, q4, q5, q6, q7⟩ := stCells_at l i s hs
    rw [Nat.zero_add]
    exact ⟨hat _ _ q0, hat _ _ q1, hat _ _ q2, hat _ _ q3, hat _ _ q4, hat _ _ q5, hat _ _ q6, hat _ _ q7⟩
end Go.Proofs.YteoemcekkcnpladDoor
namespace Go.Proofs.YteoemcekkcnpladDoor
open Go.RowKit

theorem fieldsEv : Tryd.prog.underlying 44 = some (.struct (Tryd.prog.fieldsOf 44)) := by kernel_rfl
theorem stoodEv : Tryd.prog.stoodInHeld 44 = false := by kernel_rfl
theorem fieldsEvIs : Tryd.prog.fieldsOf 44 = #[{ name := "Tick", type := 3, offset := 0, embedded := false, tag := "", pkgPath := "", byteOffset := 0 }, { name := "Room", type := 3, offset := 1, embedded := false, tag := "", pkgPath := "", byteOffset := 8 }, { name := "At", type := 3, offset := 2, embedded := false, tag := "", pkgPath := "", byteOffset := 16 }, { name := "What", type := 3, offset := 3, embedded := false, tag := "", pkgPath := "", byteOffset := 24 }] := by kernel_rfl
theorem eqIn_ev (a b c d : Int) (w : World) : (Op.equalIn 10000 44 (.agg #[.int .i64 a, .int .i64 b, .int .i64 c, .int .i64 d]) (.agg #[.int .i64 a, .int .i64 b, .int .i64 c, .int .i64 d])).run Tryd.prog w = .ok true w := by
  rw [run_equalIn_agg _ _ _ _ _ fieldsEv stoodEv, fieldsEvIs]
  simp [go_sem, Tryd.underlying3]
theorem eql_ev (a b c d : Int) (w : World) : (binOp .eql 44 (.agg #[.int .i64 a, .int .i64 b, .int .i64 c, .int .i64 d]) (.agg #[.int .i64 a, .int .i64 b, .int .i64 c, .int .i64 d])).run Tryd.prog w = .ok (.bool true) w := by
  rw [run_eql_struct, eqIn_ev]
  rfl
theorem neq_ev (a b c d : Int) (w : World) : (binOp .neq 44 (.agg #[.int .i64 a, .int .i64 b, .int .i64 c, .int .i64 d]) (.agg #[.int .i64 a, .int .i64 b, .int .i64 c, .int .i64 d])).run Tryd.prog w = .ok (.bool false) w := by
  rw [run_neq_struct, eqIn_ev]
  rfl
theorem guardEv : Tryd.prog.eqGuardType Tryd.prog.depth 44 = false := by kernel_rfl
end Go.Proofs.YteoemcekkcnpladDoor
namespace Go.Proofs.YteoemcekkcnpladDoor
open Go.RowKit
set_option maxRecDepth 1000000 in
set_option maxHeartbeats 4000000 in
theorem ints2_some (la lb : List Int) (a ao ac b bo bc : Nat) (w : World) (ha : a < w.heap.size) (hb : b < w.heap.size) (hlen : la.length = lb.length) (hl : la.length ≤ 1000000)
    (hca : ∀ (i : Nat) z, la[i]? = some z → w.cell? ⟨a, ao + i, none⟩ = some (.int .i64 z)) (hcb : ∀ (i : Nat) z, lb[i]? = some z → w.cell? ⟨b, bo + i, none⟩ = some (.int .i64 z)) :
    Calls Tryd.prog 38 #[.slice (some ⟨a, ao, none⟩) la.length ac, .slice (some ⟨b, bo, none⟩) la.length bc] w fun e w' => e = .returned (.bool (decide (la = lb))) ∧ Below w.heap.size w w' := by
  have HL : Hid (la.length = lb.length) := hlen
  clear hlen
  go_enter Tryd.func38, Tryd.ntmps38
  go_wp2
  go_loopw [5] (fun i wr => ∃ k : Nat, k ≤ la.length ∧ i = .int .i64 k ∧ (∀ j : Nat, j < k → la[j]? = lb[j]?) ∧ Below w.heap.size w wr) (fun i _ => la.length - (intOf i).toNat)
  case atStart => exact ⟨0, Nat.zero_le _, rfl, fun j hj => by omega, Below.refl _ _⟩
  case round =>
    obtain ⟨k, hk, rfl, hall, hbw⟩ := hrel
    have HA : Hid (∀ j : Nat, j < k → la[j]? = lb[j]?) := hall
    clear hall
    by_cases hkl : k < la.length
    · obtain ⟨o, ho⟩ : ∃ o, la[k]? = some o := ⟨la[k], List.getElem?_eq_getElem hkl⟩
      obtain ⟨p, hp⟩ : ∃ p, lb[k]? = some p := ⟨lb[k]'(by rw [← HL.out]; exact hkl), List.getElem?_eq_getElem _⟩
      have e0 := (hbw.cell (p := ⟨a, ao + k, none⟩) ha).trans (hca k o ho)
      have f0 := (hbw.cell (p := ⟨b, bo + k, none⟩) hb).trans (hcb k p hp)
      have HO : Hid (la[k]? = some o) := ho
      have HP : Hid (lb[k]? = some p) := hp
      clear ho hp
      have hki : (k : Int) < (la.length : Int) := by omega
      by_cases hop : o = p
      · subst hop
        go_wp2
        go_quiet (fail)
        go_wp2
        go_roundw
        case rel =>
          refine ⟨k + 1, by omega, by go_num, fun j hj => ?_, below_dN hbw _⟩
          by_cases hjk : j < k
          · exact HA.out j hjk
          · obtain rfl : j = k := by omega
            rw [HO.out, HP.out]
        case measure => simp [intOf]; omega
      · have hdd : (o == p) = false := by simpa using hop
        have HN : Hid (decide (la = lb) = false) := by
          show _ = _
          simp only [decide_eq_false_iff_not]
          intro e
          have h1 := HO.out
          rw [e, HP.out] at h1
          exact hop (Option.some.inj h1).symm
        clear hop
        go_wp2
        go_quiet (fail)
        go_wp2
        go_ret
        exact ⟨wretB HN.out.symm, below_dN hbw _⟩
    · have HN : Hid (decide (la = lb) = true) := by
        show _ = _
        simp only [decide_eq_true_eq]
        apply List.ext_getElem?
        intro j
        by_cases hj : j < k
        · exact HA.out j hj
        · rw [List.getElem?_eq_none (by omega), List.getElem?_eq_none (by rw [← HL.out]; omega)]
      go_wp2
      go_ret
      exact ⟨wretB HN.out.symm, hbw⟩
set_option maxRecDepth 1000000 in
set_option maxHeartbeats 4000000 in
theorem ints2_other (n m ac bc : Nat) (a b : Option Addr) (w : World) (h : ((n : Int) == (m : Int)) = false) :
    Calls Tryd.prog 38 #[.slice a n ac, .slice b m bc] w fun e w' => e = .returned (.bool false) ∧ Below w.heap.size w w' := by
  go_enter Tryd.func38, Tryd.ntmps38
  go_wp2
  go_ret
  exact ⟨rfl, Below.refl _ _⟩
set_option maxRecDepth 1000000 in
set_option maxHeartbeats 4000000 in
theorem ints2_nil (a b : Option Addr) (ac bc : Nat) (w : World) :
    Calls Tryd.prog 38 #[.slice a 0 ac, .slice b 0 bc] w fun e w' => e = .returned (.bool true) ∧ Below w.heap.size w w' := by
  go_enter Tryd.func38, Tryd.ntmps38
  go_wp2
  refine wp_loop_rounds 1 ?_
  rw [rounds_succ]
  go_wp2
  go_ret
  exact ⟨rfl, Below.refl _ _⟩
theorem ints2_any (va vb : Value) (la lb : List Int) (w : World) (ha : Rd w va la) (hb : Rd w vb lb) (hl : la.length ≤ 1000000) :
    Calls Tryd.prog 38 #[va, vb] w fun e w' => e = .returned (.bool (decide (la = lb))) ∧ Below w.heap.size w w' := by
  by_cases hlen : la.length = lb.length
  · rcases ha with ⟨rfl, ao, ac, rfl⟩ | ⟨a, ao, ac, rfl, _, _, hlta, hca⟩
    · have hlb : lb = [] := List.eq_nil_of_length_eq_zero (by simpa using hlen.symm)
      subst hlb
      obtain ⟨bo, bc, hvb⟩ := hb.form
      rw [hvb]
      exact ints2_nil ao bo ac bc w
    · rcases hb with ⟨rfl, bo, bc, rfl⟩ | ⟨b, bo, bc, rfl, _, _, hltb, hcb⟩
      · have hla : la = [] := List.eq_nil_of_length_eq_zero (by simpa using hlen)
        subst hla
        exact ints2_nil _ bo ac bc w
      · rw [← hlen]
        exact ints2_some la lb a ao ac b bo bc w hlta hltb hlen hl hca hcb
  · obtain ⟨ao, ac, rfl⟩ := ha.form
    obtain ⟨bo, bc, rfl⟩ := hb.form
    rw [show decide (la = lb) = false by simp only [decide_eq_false_iff_not]; intro e; exact hlen (by rw [e])]
    exact ints2_other _ _ _ _ _ _ w (by simp; omega)
set_option maxRecDepth 1000000 in
set_option maxHeartbeats 4000000 in
theorem held2_any (va vb : Value) (la lb : List Int) (x y : Int) (w : World) (ha : Rd w va la) (hb : Rd w vb lb) (hl : la.length ≤ 1000000) :
    Calls Tryd.prog 16 #[.agg #[va, .int .i64 x], .agg #[vb, .int .i64 y]] w fun e w' => e = .returned (.bool (decide ((la, x) = (lb, y)))) ∧ Below w.heap.size w w' := by
  obtain ⟨aa, ac, rfl⟩ := ha.form
  obtain ⟨ba, bc, rfl⟩ := hb.form
  have hA : Below w.heap.size w ((w.alloc (.cells #[.slice aa la.length ac, .int .i64 x] 58)).alloc (.cells #[.slice ba lb.length bc, .int .i64 y] 58)) := ((Below.refl _ _).alloc (Nat.le_refl _) _).alloc (by simp) _
  have h := ints2_any _ _ la lb _ (ha.all hA) (hb.all hA) hl
  clear ha hb
  by_cases hxy : x = y
  · subst hxy
    have e : decide ((la, x) = (lb, x)) = decide (la = lb) := by simp
    rw [e]
    clear e
    generalize decide (la = lb) = q at h ⊢
    go_enter Tryd.func16, Tryd.ntmps16
    go_wp2_with (go_at_call 38; refine h.mono ?_; rintro e w1 ⟨rfl, b1⟩; clear h)
    go_ret
    exact ⟨rfl, hA.trans (b1.mono hA.size)⟩
  · have hq : (x == y) = false := by simpa using hxy
    have e : decide ((la, x) = (lb, y)) = false := by simp [hxy]
    rw [e]
    clear e h
    go_enter Tryd.func16, Tryd.ntmps16
    go_wp2
    go_ret
    exact ⟨rfl, hA⟩
end Go.Proofs.YteoemcekkcnpladDoor
namespace Go.Proofs.YteoemcekkcnpladDoor
open Go.RowKit

/-- What wires hold, in a row that can be read. -/
def HdL (w : World) (v : Value) (l : List (List Int × Int)) : Prop :=
  (l = [] ∧ ∃ ao cap, v = .slice ao 0 cap) ∨ ∃ b off cap, v = .slice (some ⟨b, off, none⟩) l.length cap ∧ b < w.heap.size ∧ ∀ (i : Nat) x, l[i]? = some x → ∃ u, w.cell? ⟨b, off + i * 2, none⟩ = some u ∧ w.cell? ⟨b, off + i * 2 + 1, none⟩ = some (.int .i64 x.2) ∧ Rd w u x.1
theorem HdL.form {w : World} {v : Value} {l : List (List Int × Int)} (h : HdL w v l) : ∃ ao cap, v = .slice ao l.length cap := by
  rcases h with ⟨rfl, ao, cap, rfl⟩ | ⟨b, off, cap, rfl, _⟩
  · exact ⟨ao, cap, rfl⟩
  · exact ⟨_, cap, rfl⟩
theorem HdL.all {w w' : World} {v : Value} {l : List (List Int × Int)} (h : HdL w v l) (hb : Below w.heap.size w w') : HdL w' v l := by
  rcases h with h | ⟨b, off, cap, rfl, hlt, hc⟩
  · exact Or.inl h
  · refine Or.inr ⟨b, off, cap, rfl, Nat.lt_of_lt_of_le hlt hb.size, fun i x hi => ?_⟩
    obtain ⟨u, h1, h2, h3⟩ := hc i x hi
    exact ⟨u, (hb.cell (p := ⟨b, _, none⟩) hlt).trans h1, (hb.cell (p := ⟨b, _, none⟩) hlt).trans h2, h3.all hb⟩
/-- Short rows alone. -/
def ShortH (l : List (List Int × Int)) : Prop := ∀ x ∈ l, x.1.length ≤ 1000000
set_option maxRecDepth 1000000 in
set_option maxHeartbeats 4000000 in
theorem helds2_some (la lb : List (List Int × Int)) (a ao ac b bo bc : Nat) (w : World) (ha : a < w.heap.size) (hb : b < w.heap.size) (hlen : la.length = lb.length) (hl : la.length ≤ 1000000) (hsh : ShortH la)
    (hca : ∀ (i : Nat) x, la[i]? = some x → ∃ u, w.cell? ⟨a, ao + i * 2, none⟩ = some u ∧ w.cell? ⟨a, ao + i * 2 + 1, none⟩ = some (.int .i64 x.2) ∧ Rd w u x.1) (hcb : ∀ (i : Nat) x, lb[i]? = some x → ∃ u, w.cell? ⟨b, bo + i * 2, none⟩ = some u ∧ w.cell? ⟨b, bo + i * 2 + 1, none⟩ = some (.int .i64 x.2) ∧ Rd w u x.1) :
    Calls Tryd.prog 21 #[.slice (some ⟨a, ao, none⟩) la.length ac, .slice (some ⟨b, bo, none⟩) la.length bc] w fun e w' => e = .returned (.bool (decide (la = lb))) ∧ Below w.heap.size w w' := by
  have HL : Hid (la.length = lb.length) := hlen
  clear hlen
  go_enter Tryd.func21, Tryd.ntmps21
  go_wp2
  go_loopw [5] (fun i wr => ∃ k : Nat, k ≤ la.length ∧ i = .int .i64 k ∧ (∀ j : Nat, j < k → la[j]? = lb[j]?) ∧ Below w.heap.size w wr) (fun i _ => la.length - (intOf i).toNat)
  case atStart => exact ⟨0, Nat.zero_le _, rfl, fun j hj => by omega, Below.refl _ _⟩
  case round =>
    obtain ⟨k, hk, rfl, hall, hbw⟩ := hrel
    have HA : Hid (∀ j : Nat, j < k → la[j]? = lb[j]?) := hall
    clear hall
    by_cases hkl : k < la.length
    · obtain ⟨x, ho⟩ : ∃ o, la[k]? = some o := ⟨la[k], List.getElem?_eq_getElem hkl⟩
      obtain ⟨y, hp⟩ : ∃ p, lb[k]? = some p := ⟨lb[k]'(by rw [← HL.out]; exact hkl), List.getElem?_eq_getElem _⟩
      obtain ⟨u, e0, e1, e2⟩ := hca k x ho
      obtain ⟨v, f0, f1, f2⟩ := hcb k y hp
      replace e0 := (hbw.cell (p := ⟨a, ao + k * 2, none⟩) ha).trans e0
      replace e1 := (hbw.cell (p := ⟨a, ao + k * 2 + 1, none⟩) ha).trans e1
      replace f0 := (hbw.cell (p := ⟨b, bo + k * 2, none⟩) hb).trans f0
      replace f1 := (hbw.cell (p := ⟨b, bo + k * 2 + 1, none⟩) hb).trans f1
      have HO : Hid (la[k]? = some x) := ho
      have HP : Hid (lb[k]? = some y) := hp
      have hxl : x.1.length ≤ 1000000 := hsh x (List.mem_of_getElem? ho)
      have HH : Hid (∀ W, Below wr.heap.size wr W → Calls Tryd.prog 16 #[.agg #[u, .int .i64 x.2], .agg #[v, .int .i64 y.2]] W fun e w' => e = .returned (.bool (decide (x = y))) ∧ Below W.heap.size W w') := fun W hbW => held2_any u v x.1 y.1 x.2 y.2 W (e2.all (hbw.trans (hbW.mono hbw.size))) (f2.all (hbw.trans (hbW.mono hbw.size))) hxl
      clear ho hp e2 f2
      have hki : (k : Int) < (la.length : Int) := by omega
      have bQ : Below wr.heap.size wr wr.drew := (Below.refl _ _).drew
      have haw : a < wr.heap.size := Nat.lt_of_lt_of_le ha hbw.size
      have hbwr : b < wr.heap.size := Nat.lt_of_lt_of_le hb hbw.size
      have hcs : ∀ W, Below wr.heap.size wr W → W.cell? ⟨a, ao + k * 2, none⟩ = some u ∧ W.cell? ⟨a, ao + k * 2 + 1, none⟩ = some (.int .i64 x.2) ∧ W.cell? ⟨b, bo + k * 2, none⟩ = some v ∧ W.cell? ⟨b, bo + k * 2 + 1, none⟩ = some (.int .i64 y.2) := fun W hW => ⟨(hW.cell (p := ⟨a, _, none⟩) haw).trans e0, (hW.cell (p := ⟨a, _, none⟩) haw).trans e1, (hW.cell (p := ⟨b, _, none⟩) hbwr).trans f0, (hW.cell (p := ⟨b, _, none⟩) hbwr).trans f1⟩
      obtain ⟨q, hq⟩ : ∃ q, decide (x = y) = q := ⟨_, rfl⟩
      rw [hq] at HH
      have HQ : Hid (decide (x = y) = q) := hq
      clear hq
      go_upto_region 6 with fail
      go_region_held3 (fun W => W.cell? ⟨a, ao + k * 2, none⟩ = some u ∧ W.cell? ⟨a, ao + k * 2 + 1, none⟩ = some (.int .i64 x.2) ∧ W.cell? ⟨b, bo + k * 2, none⟩ = some v ∧ W.cell? ⟨b, bo + k * 2 + 1, none⟩ = some (.int .i64 y.2))
        (first | exact ⟨e0, e1, f0, f1⟩ | exact hcs _ bW | go_keep)
        (first
          | (go_at_call 16; refine (HH.out _ bQ).mono ?_; rintro e w1 ⟨rfl, b1⟩; have bW : Below wr.heap.size wr w1 := bQ.trans (b1.mono (Nat.le_refl _))))
      cases q with
      | true =>
        go_wp2
        go_roundw
        case rel =>
          refine ⟨k + 1, by omega, by go_num, fun j hj => ?_, hbw.trans (bW.mono hbw.size)⟩
          by_cases hjk : j < k
          · exact HA.out j hjk
          · obtain rfl : j = k := by omega
            rw [HO.out, HP.out, of_decide_eq_true HQ.out]
        case measure => simp [intOf]; omega
      | false =>
        have HN : Hid (decide (la = lb) = false) := by
          show _ = _
          simp only [decide_eq_false_iff_not]
          intro e
          have h1 := HO.out
          rw [e, HP.out] at h1
          exact of_decide_eq_false HQ.out (Option.some.inj h1).symm
        go_wp2
        go_ret
        exact ⟨wretB HN.out.symm, hbw.trans (bW.mono hbw.size)⟩
    · have HN : Hid (decide (la = lb) = true) := by
        show _ = _
        simp only [decide_eq_true_eq]
        apply List.ext_getElem?
        intro j
        by_cases hj : j < k
        · exact HA.out j hj
        · rw [List.getElem?_eq_none (by omega), List.getElem?_eq_none (by rw [← HL.out]; omega)]
      go_wp2
      go_ret
      exact ⟨wretB HN.out.symm, hbw⟩
set_option maxRecDepth 1000000 in
set_option maxHeartbeats 4000000 in
theorem helds2_other (n m ac bc : Nat) (a b : Option Addr) (w : World) (h : ((n : Int) == (m : Int)) = false) :
    Calls Tryd.prog 21 #[.slice a n ac, .slice b m bc] w fun e w' => e = .returned (.bool false) ∧ Below w.heap.size w w' := by
  go_enter Tryd.func21, Tryd.ntmps21
  go_wp2
  go_ret
  exact ⟨rfl, Below.refl _ _⟩
set_option maxRecDepth 1000000 in
set_option maxHeartbeats 4000000 in
theorem helds2_nil (a b : Option Addr) (ac bc : Nat) (w : World) :
    Calls Tryd.prog 21 #[.slice a 0 ac, .slice b 0 bc] w fun e w' => e = .returned (.bool true) ∧ Below w.heap.size w w' := by
  go_enter Tryd.func21, Tryd.ntmps21
  go_wp2
  refine wp_loop_rounds 1 ?_
  rw [rounds_succ]
  go_wp2
  go_ret
  exact ⟨rfl, Below.refl _ _⟩
theorem helds2_any (va vb : Value) (la lb : List (List Int × Int)) (w : World) (ha : HdL w va la) (hb : HdL w vb lb) (hl : la.length ≤ 1000000) (hsh : ShortH la) :
    Calls Tryd.prog 21 #[va, vb] w fun e w' => e = .returned (.bool (decide (la = lb))) ∧ Below w.heap.size w w' := by
  by_cases hlen : la.length = lb.length
  · rcases ha with ⟨rfl, ao, ac, rfl⟩ | ⟨a, ao, ac, rfl, hlta, hca⟩
    · have hlb : lb = [] := List.eq_nil_of_length_eq_zero (by simpa using hlen.symm)
      subst hlb
      obtain ⟨bo, bc, hvb⟩ := hb.form
      rw [hvb]
      exact helds2_nil ao bo ac bc w
    · rcases hb with ⟨rfl, bo, bc, rfl⟩ | ⟨b, bo, bc, rfl, hltb, hcb⟩
      · have hla : la = [] := List.eq_nil_of_length_eq_zero (by simpa using hlen)
        subst hla
        exact helds2_nil _ bo ac bc w
      · rw [← hlen]
        exact helds2_some la lb a ao ac b bo bc w hlta hltb hlen hl hsh hca hcb
  · obtain ⟨ao, ac, rfl⟩ := ha.form
    obtain ⟨bo, bc, rfl⟩ := hb.form
    rw [show decide (la = lb) = false by simp only [decide_eq_false_iff_not]; intro e; exact hlen (by rw [e])]
    exact helds2_other _ _ _ _ _ _ w (by simp; omega)
end Go.Proofs.YteoemcekkcnpladDoor
namespace Go.Proofs.YteoemcekkcnpladDoor
open Go.RowKit

structure HdR (B : Nat) (W : World) (v : Value) (l : List (Value × Int)) (xs : List (List Int × Int)) : Prop where
  own : W.ownsRow B 58 2 v l.length (hdCells l)
  len : l.length = xs.length
  rd : ∀ (i : Nat) x y, l[i]? = some x → xs[i]? = some y → Rd W x.1 y.1 ∧ x.2 = y.2
  ap : ∀ x ∈ l, ∀ g, x.1.ownBlock = some g → g < W.heap.size ∧ v.ownBlock ≠ some g
theorem HdR.nil (B : Nat) (W : World) : HdR B W (.slice none 0 0) [] [] := ⟨World.ownsRow_nil _ _ _ _, rfl, fun i x y h => by simp at h, fun x hx => by cases hx⟩
theorem HdR.hdl {B : Nat} {W : World} {v : Value} {l : List (Value × Int)} {xs : List (List Int × Int)} (h : HdR B W v l xs) : HdL W v xs := by
  have hlt := h.own.lt
  have hcs := @World.ownsRow.cells _ _ _ _ _ _ _ h.own
  rcases h.own.2 with ⟨rfl, h0⟩ | ⟨g, cap, cur, rfl, _, _, hcap, _⟩
  · exact Or.inl ⟨List.eq_nil_of_length_eq_zero (by rw [← h.len]; exact h0), _, _, rfl⟩
  · have hat : ∀ j u, (hdCells l)[j]? = some u → W.cell? ⟨g, j, none⟩ = some u := fun j u hu => by
      have := hcs rfl j u hu
      rwa [Addr.add_lit, Nat.zero_add] at this
    refine Or.inr ⟨g, 0, cap, by rw [h.len], (hlt g rfl).2, fun i y hy => ?_⟩
    have hil : i < l.length := by rw [h.len]; exact (List.getElem?_eq_some_iff.1 hy).1
    have hx : l[i]? = some l[i] := List.getElem?_eq_getElem hil
    obtain ⟨q0, q1⟩ := hdCells_at l i _ hx
    obtain ⟨r0, r1⟩ := h.rd i _ y hx hy
    rw [Nat.zero_add]
    exact ⟨_, hat _ _ q0, by rw [← r1]; exact hat _ _ q1, r0⟩
theorem HdR.all {B : Nat} {W W' : World} {v : Value} {l : List (Value × Int)} {xs : List (List Int × Int)} (h : HdR B W v l xs) (hb : Below W.heap.size W W') : HdR B W' v l xs :=
  ⟨own_below h.own hb (Nat.le_refl _), h.len, fun i x y hx hy => ⟨(h.rd i x y hx hy).1.all hb, (h.rd i x y hx hy).2⟩, fun x hx g hg => ⟨Nat.lt_of_lt_of_le (h.ap x hx g hg).1 hb.size, (h.ap x hx g hg).2⟩⟩
/-- One more. -/
theorem HdR.more {B : Nat} {W w8 : World} {v v' u : Value} {l : List (Value × Int)} {xs : List (List Int × Int)} {y : List Int × Int} (h : HdR B W v l xs) (hu : Rd W u y.1) (hua : ∀ g, u.ownBlock = some g → g < W.heap.size ∧ v.ownBlock ≠ some g) {o : Obj} (hg : (W.alloc o).grownBy w8 v.ownBlock)
    (hown : w8.ownsRow B 58 2 v' (l.length + 1) (hdCells l ++ [u, .int .i64 y.2])) (hnew : ∀ g, v'.ownBlock = some g → v.ownBlock = some g ∨ W.heap.size + 1 ≤ g) : HdR B w8 v' (l ++ [(u, y.2)]) (xs ++ [y]) := by
  have hs2 : (W.alloc o).heap.size = W.heap.size + 1 := by simp
  have hs8 : W.heap.size + 1 ≤ w8.heap.size := by have := hg.size; omega
  have hk : ∀ g, g < W.heap.size → v.ownBlock ≠ some g → w8.heap[g]? = W.heap[g]? := fun g h1 h2 => (hg.block g (by omega) (fun e => h2 e.symm)).trans (Below.heap_alloc _ _ _ h1)
  refine ⟨by rw [List.length_append, hdCells_snoc]; exact hown, by simp [h.len], fun i x z hx hz => ?_, fun x hx g hgx => ?_⟩
  · by_cases hil : i < l.length
    · rw [List.getElem?_append_left hil] at hx
      rw [List.getElem?_append_left (by rw [← h.len]; exact hil)] at hz
      obtain ⟨h1, h2⟩ := h.rd i x z hx hz
      exact ⟨h1.block (fun g hg' he => hk g hg' (h.ap x (List.mem_of_getElem? hx) g he).2) (by omega), h2⟩
    · have hlt := (List.getElem?_eq_some_iff.1 hx).1
      rw [List.length_append, List.length_singleton] at hlt
      obtain rfl : i = l.length := by omega
      rw [List.getElem?_append_right (Nat.le_refl _), Nat.sub_self] at hx
      rw [List.getElem?_append_right (by rw [h.len]; exact Nat.le_refl _), h.len, Nat.sub_self] at hz
      simp only [List.getElem?_cons_zero, Option.some.injEq] at hx hz
      subst hx
      subst hz
      exact ⟨hu.block (fun g hg' he => hk g hg' (hua g he).2) (by omega), rfl⟩
  · have hq : g < W.heap.size ∧ v.ownBlock ≠ some g := by
      rcases List.mem_append.1 hx with h1 | h1
      · exact h.ap x h1 g hgx
      · rw [List.mem_singleton] at h1
        subst h1
        exact hua g hgx
    refine ⟨by omega, fun e => ?_⟩
    rcases hnew g e with h5 | h5
    · exact hq.2 h5
    · omega
end Go.Proofs.YteoemcekkcnpladDoor
namespace Go.Proofs.YteoemcekkcnpladDoor
open Go.ChangeShapes

theorem trodAll_four {H : Type} {enc : TypeId × Value → H} {P : Program} {w : World} {base : Nat} {spare : Nat → Bool} {held : Bool} {t0 t1 t2 t3 : TypeId} {args : Array Value} {ds : List (DataW H)} {ps : List MemPlace} (h : DataW.TrodAll enc P w base spare held [t0, t1, t2, t3] args.toList ds ps) :
    ∃ v0 v1 v2 v3 d0 d1 d2 d3 p0 p1 p2 p3, args = #[v0, v1, v2, v3] ∧ ds = [d0, d1, d2, d3] ∧ DataW.Trod enc P w base spare held t0 v0 d0 p0 ∧ DataW.Trod enc P w base spare held t1 v1 d1 p1 ∧ DataW.Trod enc P w base spare held t2 v2 d2 p2 ∧ DataW.Trod enc P w base spare held t3 v3 d3 p3 := by
  obtain ⟨v0, vs0, d0, ds0, p0, q0, hargs, rfl, rfl, h0, r0⟩ := trodAll_cons h
  obtain ⟨v1, vs1, d1, ds1, p1, q1, rfl, rfl, rfl, h1, r1⟩ := trodAll_cons r0
  obtain ⟨v2, vs2, d2, ds2, p2, q2, rfl, rfl, rfl, h2, r2⟩ := trodAll_cons r1
  obtain ⟨v3, vs3, d3, ds3, p3, q3, rfl, rfl, rfl, h3, r3⟩ := trodAll_cons r2
  obtain ⟨rfl, rfl, rfl⟩ := trodAll_nil r3
  exact ⟨v0, v1, v2, v3, d0, d1, d2, d3, p0, p1, p2, p3, by cases args; simp_all, rfl, h0, h1, h2, h3⟩
theorem trodAll_five {H : Type} {enc : TypeId × Value → H} {P : Program} {w : World} {base : Nat} {spare : Nat → Bool} {held : Bool} {t0 t1 t2 t3 t4 : TypeId} {args : Array Value} {ds : List (DataW H)} {ps : List MemPlace} (h : DataW.TrodAll enc P w base spare held [t0, t1, t2, t3, t4] args.toList ds ps) :
    ∃ v0 v1 v2 v3 v4 d0 d1 d2 d3 d4 p0 p1 p2 p3 p4, args = #[v0, v1, v2, v3, v4] ∧ ds = [d0, d1, d2, d3, d4] ∧ DataW.Trod enc P w base spare held t0 v0 d0 p0 ∧ DataW.Trod enc P w base spare held t1 v1 d1 p1 ∧ DataW.Trod enc P w base spare held t2 v2 d2 p2 ∧ DataW.Trod enc P w base spare held t3 v3 d3 p3 ∧ DataW.Trod enc P w base spare held t4 v4 d4 p4 := by
  obtain ⟨v0, vs0, d0, ds0, p0, q0, hargs, rfl, rfl, h0, r0⟩ := trodAll_cons h
  obtain ⟨v1, vs1, d1, ds1, p1, q1, rfl, rfl, rfl, h1, r1⟩ := trodAll_cons r0
  obtain ⟨v2, vs2, d2, ds2, p2, q2, rfl, rfl, rfl, h2, r2⟩ := trodAll_cons r1
  obtain ⟨v3, vs3, d3, ds3, p3, q3, rfl, rfl, rfl, h3, r3⟩ := trodAll_cons r2
  obtain ⟨v4, vs4, d4, ds4, p4, q4, rfl, rfl, rfl, h4, r4⟩ := trodAll_cons r3
  obtain ⟨rfl, rfl, rfl⟩ := trodAll_nil r4
  exact ⟨v0, v1, v2, v3, v4, d0, d1, d2, d3, d4, p0, p1, p2, p3, p4, by cases args; simp_all, rfl, h0, h1, h2, h3, h4⟩
theorem trodAll_six {H : Type} {enc : TypeId × Value → H} {P : Program} {w : World} {base : Nat} {spare : Nat → Bool} {held : Bool} {t0 t1 t2 t3 t4 t5 : TypeId} {args : Array Value} {ds : List (DataW H)} {ps : List MemPlace} (h : DataW.TrodAll enc P w base spare held [t0, t1, t2, t3, t4, t5] args.toList ds ps) :
    ∃ v0 v1 v2 v3 v4 v5 d0 d1 d2 d3 d4 d5 p0 p1 p2 p3 p4 p5, args = #[v0, v1, v2, v3, v4, v5] ∧ ds = [d0, d1, d2, d3, d4, d5] ∧ DataW.Trod enc P w base spare held t0 v0 d0 p0 ∧ DataW.Trod enc P w base spare held t1 v1 d1 p1 ∧ DataW.Trod enc P w base spare held t2 v2 d2 p2 ∧ DataW.Trod enc P w base spare held t3 v3 d3 p3 ∧ DataW.Trod enc P w base spare held t4 v4 d4 p4 ∧ DataW.Trod enc P w base spare held t5 v5 d5 p5 := by
  obtain ⟨v0, vs0, d0, ds0, p0, q0, hargs, rfl, rfl, h0, r0⟩ := trodAll_cons h
  obtain ⟨v1, vs1, d1, ds1, p1, q1, rfl, rfl, rfl, h1, r1⟩ := trodAll_cons r0
  obtain ⟨v2, vs2, d2, ds2, p2, q2, rfl, rfl, rfl, h2, r2⟩ := trodAll_cons r1
  obtain ⟨v3, vs3, d3, ds3, p3, q3, rfl, rfl, rfl, h3, r3⟩ := trodAll_cons r2
  obtain ⟨v4, vs4, d4, ds4, p4, q4, rfl, rfl, rfl, h4, r4⟩ := trodAll_cons r3
  obtain ⟨v5, vs5, d5, ds5, p5, q5, rfl, rfl, rfl, h5, r5⟩ := trodAll_cons r4
  obtain ⟨rfl, rfl, rfl⟩ := trodAll_nil r5
  exact ⟨v0, v1, v2, v3, v4, v5, d0, d1, d2, d3, d4, d5, p0, p1, p2, p3, p4, p5, by cases args; simp_all, rfl, h0, h1, h2, h3, h4, h5⟩
end Go.Proofs.YteoemcekkcnpladDoor
namespace Go.Proofs.YteoemcekkcnpladDoor
open Go.RowKit

set_option maxRecDepth 100000 in
set_option maxHeartbeats 4000000 in
theorem gpoke_any (p : PD) (k : KD) (kb base : Nat) (a : GW) (r c n : Int) (w : World) (h : GK w base p k kb a) :
    Calls Tryd.prog 20 #[.pointer (some ⟨kb, 0, none⟩), .int .i64 r, .int .i64 c, .int .i64 n] w fun e w' => e = .returned (wErr (pokeN k r c n)) ∧ GK w' base p (pokeK k r c n) kb a ∧ KTouch (a.F kb) w w' := by
  have c3 := h.c3
  have H : Hid (GK w base p k kb a) := h
  clear h
  go_enter Tryd.func20, Tryd.ntmps20
  go_upto_region 1 with fail
  go_cut [26] from 9 to 25 (fun s26 wx => s26 = .bool (pokeB k r c n) ∧ wx = w)
  case first =>
    by_cases h0 : 0 ≤ r ∧ r < (k.rooms.length : Int)
    · by_cases h1 : 0 ≤ c ∧ c < 6
      · have HX : Hid (pokeB k r c n = !(decide (0 ≤ n) && decide (n < 1000))) := by
          show _ = _
          unfold pokeB
          have e1 : decide (r < 0) = false := decide_eq_false (by omega)
          have e2 : decide ((k.rooms.length : Int) ≤ r) = false := decide_eq_false (by omega)
          have e3 : decide (c < 0) = false := decide_eq_false (by omega)
          have e4 : decide (5 < c) = false := decide_eq_false (by omega)
          simp only [e1, e2, e3, e4, Bool.false_or]
          by_cases e5 : n < 0
          · simp [e5] <;> omega
          · by_cases e6 : 999 < n
            · simp [e6] <;> omega
            · simp [e5, e6] <;> omega
        have b0 : (decide (0 ≤ r) && decide (r < (k.rooms.length : Int))) = true := by simp [h0.1, h0.2]
        have b1 : (decide (0 ≤ c) && decide (c < 6)) = true := by simp [h1.1, h1.2]
        go_wp2_with (go_at_call 35; refine (kbelow_any _ _ _).mono ?_; rintro e w1 ⟨rfl, hw1⟩; subst hw1; first | rw [b0] | rw [b1] | skip)
        go_meet
        case rel => exact ⟨by rw [HX.out, Bool.not_and], rfl⟩
      · have HX : Hid (pokeB k r c n = true) := by
          show _ = _
          unfold pokeB
          by_cases e3 : c < 0
          · simp [e3]
          · have e4 : 5 < c := by omega
            simp [e4]
        have b0 : (decide (0 ≤ r) && decide (r < (k.rooms.length : Int))) = true := by simp [h0.1, h0.2]
        have b1 : (decide (0 ≤ c) && decide (c < 6)) = false := by
          rw [← Bool.decide_and]
          exact decide_eq_false h1
        go_wp2_with (go_at_call 35; refine (kbelow_any _ _ _).mono ?_; rintro e w1 ⟨rfl, hw1⟩; subst hw1; first | rw [b0] | rw [b1] | skip)
        go_meet
        case rel => exact ⟨by rw [HX.out], rfl⟩
    · have HX : Hid (pokeB k r c n = true) := by
        show _ = _
        unfold pokeB
        by_cases e1 : r < 0
        · simp [e1]
        · have e2 : (k.rooms.length : Int) ≤ r := by omega
          simp [e2]
      go_wp2_with (go_at_call 35; refine (kbelow_no _ _ _ h0).mono ?_; rintro e w1 ⟨rfl, hw1⟩; subst hw1)
      go_meet
      case rel => exact ⟨by rw [HX.out], rfl⟩
  case rest =>
  obtain ⟨rfl, hwc⟩ := hcut
  rw [hwc]
  clear hwc
  cases hb : pokeB k r c n with
  | true =>
    go_wp2
    go_ret
    exact ⟨by unfold pokeN; rw [hb]; rfl, by unfold pokeK; rw [hb, if_pos rfl]; exact H.out, KTouch.refl _ _⟩
  | false =>
    obtain ⟨h0, h1, h2, h3, h4, h5⟩ := pokeB_false hb
    obtain ⟨rn, rfl⟩ : ∃ m : Nat, r = m := ⟨r.toNat, by omega⟩
    obtain ⟨cn, rfl⟩ : ∃ m : Nat, c = m := ⟨c.toNat, by omega⟩
    have hrl : rn < k.rooms.length := by omega
    have hcl : cn ≤ 5 := by omega
    have hc6 : (cn : Int) < 6 := by omega
    have hs : k.rooms[rn]? = some k.rooms[rn] := List.getElem?_eq_getElem hrl
    have hst := H.out.rooms rn _ hs
    have hcell : ∃ v, w.cell? ⟨a.rb, rn * 8 + 1 + cn, none⟩ = some v := by
      obtain ⟨q0, q1, q2, q3, q4, q5, q6, q7⟩ := hst
      match cn, hcl with
      | 0, _ => exact ⟨_, q1⟩
      | 1, _ => exact ⟨_, q2⟩
      | 2, _ => exact ⟨_, q3⟩
      | 3, _ => exact ⟨_, q4⟩
      | 4, _ => exact ⟨_, q5⟩
      | 5, _ => exact ⟨_, q6⟩
    obtain ⟨v0, hv0⟩ := hcell
    have hfz := H.out.rf (rn * 8 + 1 + cn)
    have HK : Hid (pokeK k rn cn n = ⟨k.rooms.set rn (pokeS k.rooms[rn] cn n), k.lines, k.time⟩) := by
      show _ = _
      unfold pokeK
      rw [hb, if_neg (by decide)]
      simp [List.getD, hs]
    clear hst hs
    have HB : Hid (pokeB k rn cn n = false) := hb
    clear hb
    go_wp2
    go_ret
    refine ⟨by unfold pokeN; rw [HB.out]; rfl, ?_, KTouch.set w (by simp [GW.F]) _ _⟩
    rw [HK.out]
    exact H.out.poke (List.getElem?_eq_getElem hrl) hcl n
end Go.Proofs.YteoemcekkcnpladDoor
namespace Go.Proofs.YteoemcekkcnpladDoor
open Go.RowKit

theorem gker_poke {G : World → Prop} (hG : ∀ w, G w → Forms w) (hall : ∀ w w', G w → Below w.heap.size w w' → G w') : KerPoke (gker hG hall) := fun {w0 W p _ _ _ k kb F} r c n ⟨a, h, hF, hb⟩ _ _ => by
  subst hF
  refine (gpoke_any p k kb _ a r c n W h).mono ?_
  rintro e w' ⟨rfl, h1, h2⟩
  exact ⟨rfl, _, ⟨a, h1, rfl, hb.trans (h2.below h.ge hb.size)⟩, h2, fun g hg => Or.inl hg⟩
end Go.Proofs.YteoemcekkcnpladDoor
