/-
  frameref2.Load: the document's kernel of a text.
-/
import Derived.Test.YtfconbblnmbnpahGreatDoorJa4
import Derived.Test.YtfconbblnmbnpahGreatDoorJa5
import Derived.Test.YtfconbblnmbnpahGreatDoorJa3
import Derived.Test.YtfconbblnmbnpahGreatDoorKRefNew
import Derived.Test.YtfconbblnmbnpahGreatDoorJa16
import Derived.Test.YtfconbblnmbnpahGreatDoorJa13
import Derived.Test.YtfconbblnmbnpahGreatDoorJa12
import Derived.Test.YtfconbblnmbnpahGreatDoorJa1
import Derived.Test.YtfconbblnmbnpahGreatDoorJa2
import Derived.Deep.RegionHeld3
import Derived.Deep.CutRange
import Derived.Deep.RegionWith
import Derived.BigQuiet
import Derived.RangeFuncNested
namespace Go.Proofs.YtfconbblnmbnpahGreatDoor
open Go.RowKit

theorem cut_last (c : UInt8) (l : List UInt8) : ∃ ps q, cutB c l = ps ++ [q] := by
  have h := (cutGo_len c l []).1
  have hne : cutB c l ≠ [] := fun e => by
    unfold cutB at e
    rw [e] at h
    simp at h
  exact ⟨(cutB c l).dropLast, (cutB c l).getLast hne, (List.dropLast_concat_getLast hne).symm⟩
theorem cut_head (c : UInt8) (l : List UInt8) : ∃ p ps, cutB c l = p :: ps := by
  have h := (cutGo_len c l []).1
  cases e : cutB c l with
  | nil =>
    unfold cutB at e
    rw [e] at h
    simp at h
  | cons p ps => exact ⟨p, ps, rfl⟩
theorem cut_many (c : UInt8) (l : List UInt8) : (cutB c l).length ≤ l.length + 1 := (cutGo_len c l []).2
theorem piece_le {t u : List UInt8} {ps : List (List UInt8)} {q : List UInt8} (hc : cutB 10 t = ps ++ [q]) {i : Nat} (hu : ps[i]? = some u) : u.length ≤ t.length := by
  have := piece_len t [] u (by
    show u ∈ cutB 10 t
    rw [hc]
    exact List.mem_append_left _ (List.mem_of_getElem? hu))
  simpa using this
/-- Behind n lines. -/
def LN (p : PD) (ps : List (List UInt8)) (n : Nat) (kk : KD) (bad : Bool) : Prop := (n = 0 ∧ kk = newK p ∧ bad = false) ∨ (1 ≤ n ∧ LI p ps (min (n - 1) p.code.length) (n - 1 - p.code.length) kk bad)
theorem LN.len {p : PD} {ps : List (List UInt8)} {n : Nat} {kk : KD} {bad : Bool} (h : LN p ps n kk bad) (hps : ps.length = 1 + p.code.length + p.wires.length) (hn : n ≤ ps.length) : kk.rooms.length = p.code.length ∧ kk.lines.length = p.wires.length := by
  rcases h with ⟨_, rfl, _⟩ | ⟨h1, h2⟩
  · simp [newK]
  · obtain ⟨t, l, ws, _, e2, e3, rfl, _⟩ := h2.ex
    have l1 := sroomsOf_len e2
    have l2 := (swiresOf_len e3).1
    rw [List.length_take, List.length_drop] at l1
    rw [List.length_take] at l2
    simp only [List.length_append, List.length_drop, newK, List.length_map]
    omega
theorem snP_none {p : PD} {t : List UInt8} {ps : List (List UInt8)} (hc : cutB 10 t = ps ++ [[]]) (hl : ps.length = 1 + p.code.length + p.wires.length) (h : snOf p ps = none) : (snP p t).2 = 2 := by
  unfold snP
  rw [hc, List.getLast?_concat, if_pos ⟨rfl, by rw [List.length_append]; simp; omega⟩, List.dropLast_concat, h]
  rfl
theorem snP_some {p : PD} {t : List UInt8} {ps : List (List UInt8)} {k : KD} (hc : cutB 10 t = ps ++ [[]]) (hl : ps.length = 1 + p.code.length + p.wires.length) (h : snOf p ps = some k) : snP p t = if snBad p k = true then (newK p, 1) else (k, 0) := by
  unfold snP
  rw [hc, List.getLast?_concat, if_pos ⟨rfl, by rw [List.length_append]; simp; omega⟩, List.dropLast_concat, h]
  rfl
theorem snP_shape {p : PD} {t : List UInt8} {ps : List (List UInt8)} {q : List UInt8} (hc : cutB 10 t = ps ++ [q]) (h : q ≠ [] ∨ ps.length ≠ 1 + p.code.length + p.wires.length) : (snP p t).2 = 2 := by
  unfold snP
  rw [hc, List.getLast?_concat, if_neg]
  rintro ⟨h1, h2⟩
  rcases h with h | h
  · exact h (by simpa using h1)
  · apply h
    rw [List.length_append] at h2
    simp at h2
    omega
theorem stime_none {u w : List UInt8} {ns : List Int} (h : wnL u = some (w, ns)) (hn : w ≠ snTimeW ∨ ns.length ≠ 1) : stimeOf u = none := by
  unfold stimeOf
  rw [h]
  cases ns with
  | nil => rfl
  | cons x ns =>
    cases ns with
    | nil =>
      rcases hn with hn | hn
      · simp [hn]
      · simp at hn
    | cons y ns => rfl
theorem stime_some {u : List UInt8} {x : Int} (h : wnL u = some (snTimeW, [x])) : stimeOf u = some x := by
  unfold stimeOf
  rw [h]
  simp
theorem sroom_none {u w : List UInt8} {ns : List Int} (h : wnL u = some (w, ns)) (hn : w ≠ snRoomW ∨ stOf ns = none) : sroomOf u = none := by
  unfold sroomOf
  rw [h]
  simp only
  rcases hn with hn | hn
  · rw [if_neg hn]
  · rw [hn]
    simp
theorem sroom_some {u : List UInt8} {ns : List Int} (h : wnL u = some (snRoomW, ns)) : sroomOf u = stOf ns := by
  unfold sroomOf
  rw [h]
  simp
theorem swire_none {u w : List UInt8} {ns : List Int} (h : wnL u = some (w, ns)) (hn : w ≠ snWireW ∨ ns = []) (x : W4) : swireOf x u = none := by
  unfold swireOf
  rw [h]
  cases ns with
  | nil => rfl
  | cons y ns =>
    rcases hn with hn | hn
    · simp [hn]
    · cases hn
theorem swire_some {u : List UInt8} {n : Int} {ns : List Int} (h : wnL u = some (snWireW, n :: ns)) (x : W4) : swireOf x u = some ⟨x, ns, n⟩ := by
  unfold swireOf
  rw [h]
  simp
theorem wn_words {u pw : List UInt8} {pws : List (List UInt8)} (hc : cutB 32 u = pw :: pws) : wnL u = (nums7 pws).map fun ns => (pw, ns) := by
  unfold wnL
  rw [hc]
/-- One line is none. -/
theorem snOf_line {p : PD} {ps : List (List UInt8)} {n : Nat} {u : List UInt8} (hu : ps[n]? = some u) (hN : ps.length = 1 + p.code.length + p.wires.length) (h0 : n = 0 → stimeOf u = none) (h1 : 1 ≤ n → n ≤ p.code.length → sroomOf u = none) (h2 : p.code.length < n → ∀ x, swireOf x u = none) : snOf p ps = none := by
  have hlt := (List.getElem?_eq_some_iff.1 hu).1
  by_cases hn0 : n = 0
  · subst hn0
    exact snOf_time hu (h0 rfl)
  · by_cases hnr : n ≤ p.code.length
    · obtain ⟨r, rfl⟩ : ∃ r, n = r + 1 := ⟨n - 1, by omega⟩
      exact snOf_room hu (by omega) (h1 (by omega) hnr)
    · obtain ⟨m, hm⟩ : ∃ m, n = m + 1 + p.code.length := ⟨n - 1 - p.code.length, by omega⟩
      subst hm
      have hml : m < p.wires.length := by omega
      exact snOf_wire hu (List.getElem?_eq_getElem hml) (h2 (by omega) _)
/-- Numbers in a row that was made. -/
theorem own_ints {w : World} {base : Nat} {v : Value} {ns : List Int} (h : w.ownsRow base 3 1 v ns.length (ns.map (Value.int .i64))) : ∃ na nc, v = .slice na ns.length nc ∧ ∀ (j : Nat) x, ns[j]? = some x → ∃ nb, na = some ⟨nb, 0, none⟩ ∧ base ≤ nb ∧ nb < w.heap.size ∧ ns.length ≤ nc ∧ nc ≤ maxLen := by
  have hl := h.lt
  rcases h.2 with ⟨rfl, h0⟩ | ⟨g, cap, cur, rfl, hb, hg, hcap, hmx, _⟩
  · refine ⟨none, 0, by rw [h0], fun j x hj => ?_⟩
    have := (List.getElem?_eq_some_iff.1 hj).1
    omega
  · exact ⟨_, cap, rfl, fun j x hj => ⟨g, rfl, hb, (hl g rfl).2, hcap, hmx⟩⟩
theorem own_int_at {w : World} {base nb nc : Nat} {ns : List Int} (h : w.ownsRow base 3 1 (.slice (some ⟨nb, 0, none⟩) ns.length nc) ns.length (ns.map (Value.int .i64))) {j : Nat} {x : Int} (hj : ns[j]? = some x) : w.cell? ⟨nb, j, none⟩ = some (.int .i64 x) := by
  have := h.cells (g := nb) rfl j (.int .i64 x) (by rw [List.getElem?_map, hj]; rfl)
  rwa [Addr.add_lit, Nat.zero_add] at this
theorem stOf_len {ns : List Int} (h : ns.length ≠ 8) : stOf ns = none := by
  match ns, h with
  | [], _ => rfl
  | [_], _ => rfl
  | [_, _], _ => rfl
  | [_, _, _], _ => rfl
  | [_, _, _, _], _ => rfl
  | [_, _, _, _, _], _ => rfl
  | [_, _, _, _, _, _], _ => rfl
  | [_, _, _, _, _, _, _], _ => rfl
  | [_, _, _, _, _, _, _, _], h => exact absurd rfl h
  | _ :: _ :: _ :: _ :: _ :: _ :: _ :: _ :: _ :: _, _ => rfl
theorem eight {ns : List Int} (h : ns.length = 8) : ∃ a0 c0 c1 c2 c3 c4 c5 f, ns = [a0, c0, c1, c2, c3, c4, c5, f] := by
  match ns, h with
  | [a0, c0, c1, c2, c3, c4, c5, f], _ => exact ⟨a0, c0, c1, c2, c3, c4, c5, f, rfl⟩
/-- A state of which so many cells are laid. -/
def stQ (ns : List Int) (c : Nat) (b : Bool) : St := ⟨ns.getD 0 0, fun i => if i < c then ns.getD (1 + i) 0 else 0, b⟩
theorem stQ_all {a0 c0 c1 c2 c3 c4 c5 f : Int} (h : ¬ 1 < f) : stOf [a0, c0, c1, c2, c3, c4, c5, f] = some (stQ [a0, c0, c1, c2, c3, c4, c5, f] 6 (decide (f = 1))) := by
  unfold stOf
  simp only
  rw [if_neg h]
  congr 1
  unfold stQ
  congr 1
  funext i
  match i with
  | 0 => rfl
  | 1 => rfl
  | 2 => rfl
  | 3 => rfl
  | 4 => rfl
  | 5 => rfl
  | n + 6 =>
    simp
    intro h
    omega
theorem stQ_set {W : World} {b : Nat} {ns : List Int} {c : Nat} {f : Bool} (h : StB W b (stQ ns c f)) (hc : c < 6) : StB (W.setCell ⟨b, 1 + c, none⟩ (.int .i64 (ns.getD (1 + c) 0))) b (stQ ns (c + 1) f) := by
  have e : W.heap[b]? = _ := h
  unfold StB
  match c, hc with
  | 0, _ => simp [World.setCell, Array.getElem?_modify, e, stQ]
  | 1, _ => simp [World.setCell, Array.getElem?_modify, e, stQ]
  | 2, _ => simp [World.setCell, Array.getElem?_modify, e, stQ]
  | 3, _ => simp [World.setCell, Array.getElem?_modify, e, stQ]
  | 4, _ => simp [World.setCell, Array.getElem?_modify, e, stQ]
  | 5, _ => simp [World.setCell, Array.getElem?_modify, e, stQ]
theorem stb_free {W : World} {b : Nat} {s : St} (h : StB W b s) (o : Nat) : W.frozen? ⟨b, o, none⟩ = false := by
  have e : W.heap[b]? = _ := h
  simp [World.frozen?, e]
theorem stb_some {W : World} {b : Nat} {s : St} (h : StB W b s) {n : Nat} (hn : n < 6) : ∃ v, W.cell? ⟨b, 1 + n, none⟩ = some v := by
  obtain ⟨_, h1, h2, h3, h4, h5, h6, _⟩ := h.cs
  simp only [Nat.zero_add] at h1 h2 h3 h4 h5 h6
  match n, hn with
  | 0, _ => exact ⟨_, h1⟩
  | 1, _ => exact ⟨_, h2⟩
  | 2, _ => exact ⟨_, h3⟩
  | 3, _ => exact ⟨_, h4⟩
  | 4, _ => exact ⟨_, h5⟩
  | 5, _ => exact ⟨_, h6⟩
theorem LI.line_at {p : PD} {ps : List (List UInt8)} {r m : Nat} {kk : KD} {bad : Bool} {x : W4} (h : LI p ps r m kk bad) (hx : p.wires[m]? = some x) : kk.lines[m]? = some ⟨x, [], 0⟩ := by
  obtain ⟨t, l, ws, h1, h2, h3, rfl, rfl⟩ := h.ex
  have hlx := (List.getElem?_eq_some_iff.1 hx).1
  have hll : ws.length = m := by rw [(swiresOf_len h3).1, List.length_take]; omega
  simp only
  rw [List.getElem?_append_right (by omega), hll, Nat.sub_self, List.getElem?_drop, Nat.add_zero]
  simp [newK, hx]
theorem sx_take' {α : Type} {l : List α} {j : Nat} {x : α} (h : l[j]? = some x) : l.take (j + 1) = l.take j ++ [x] := by
  obtain ⟨hk, rfl⟩ := List.getElem?_eq_some_iff.1 h
  rw [List.take_succ_eq_append_getElem hk]
/-- What Load answers. -/
def LoadR (p : PD) (vc vs vw : Value) (t : List UInt8) (w : World) (e : Ending) (w' : World) : Prop :=
  Below w.heap.size w w' ∧ (((snP p t).2 ≠ 0 ∧ ∃ x, e = .returned (.tuple #[.pointer x, .int .i64 (snP p t).2])) ∨ ((snP p t).2 = 0 ∧ ∃ a : KW, e = .returned (.tuple #[.pointer (some ⟨a.kb, 0, none⟩), .int .i64 0]) ∧ w.heap.size ≤ a.lr ∧ RK w' w.heap.size p vc vs vw (snP p t).1 a))
set_option maxRecDepth 100000 in
set_option maxHeartbeats 16000000 in
theorem rload_any (p : PD) (vc vs vw : Value) (t : ByteArray) (w : World) (hp : plchk p = 0) (hP : Pln w vc vs vw p) (ht : t.size ≤ 1099511627776) :
    Calls Tryz.prog 29 #[plV vc p.ticks vs vw, .string t] w (LoadR p vc vs vw t.data.toList w) := by
  obtain ⟨ca, cc, rfl⟩ := hP.code.form
  obtain ⟨sa, sc, rfl⟩ := hP.spans.form
  obtain ⟨wa, wc', rfl⟩ := hP.wires.form
  have hx0 := Bx.first w (.slice ca p.code.length cc) p.ticks (.slice sa p.spans.length sc) (.slice wa p.wires.length wc')
  have qN := newkernel_any p _ _ _ _ hp (hP.all hx0.below)
  obtain ⟨ps, q, hc⟩ := cut_last 10 t.data.toList
  have hpl : ps.length ≤ 1099511627776 := by
    have := cut_many 10 t.data.toList
    rw [hc, List.length_append] at this
    have e : t.data.toList.length = t.size := by rw [Array.length_toList]; rfl
    simp at this
    omega
  have HCut : Hid (∀ W, Calls Tryz.prog 45 #[.string t, .int .u8 10] W fun e w' => (∃ g cap, e = .returned (.slice (some ⟨g, 0, none⟩) (ps.length + 1) cap) ∧ W.heap.size ≤ g ∧ g < w'.heap.size ∧ w'.cell? ⟨g, ps.length, none⟩ = some (.string ⟨q.toArray⟩) ∧ Hid (∀ (i : Nat) u, ps[i]? = some u → w'.cell? ⟨g, i, none⟩ = some (.string ⟨u.toArray⟩))) ∧ Below W.heap.size W w') := fun W => by
    refine (cut_any t 10 10 rfl W ht).mono ?_
    rintro e w' ⟨v, rfl, ho, hb⟩
    rw [hc] at ho
    have hst := strs_of_own ho (by simp)
    obtain ⟨g, cap, rfl, hg, hcl⟩ := hst
    refine ⟨⟨g, cap, by simp, (ho.lt g rfl).1, hg, hcl ps.length q (by simp), fun i u hu => hcl i u ?_⟩, hb⟩
    rw [List.getElem?_append_left (List.getElem?_eq_some_iff.1 hu).1]
    exact hu
  have HP : Hid (Pln w (.slice ca p.code.length cc) (.slice sa p.spans.length sc) (.slice wa p.wires.length wc') p) := hP
  have HZ : Hid (plchk p = 0) := hp
  have HC : Hid (cutB 10 t.data.toList = ps ++ [q]) := hc
  have hc5 := (plchk_zero hp).1
  have hw12 := (wschk_ok (plchk_zero hp).2.2.2.1).1
  unfold plV at qN ⊢
  clear hP hp hc
  go_enter Tryz.func29, Tryz.ntmps29
  go_upto_region 2 with (go_at_call 8; refine qN.mono ?_; rintro e w2 ⟨a, rfl, hlr, hR, b2⟩; clear qN)
  go_upto_region 3 with (go_at_call 45; refine (HCut.out _).mono ?_; rintro e w3 ⟨⟨g, gc, rfl, hg2, hg3, hql, HG⟩, b3⟩; clear HCut)
  have hx2 := hx0.step b2
  have hx3 := hx2.step b3
  have R3 := hR.all b3
  have HGF : Hid (g ∉ a.m) := fun hm => by
    have := hR.mlt g hm
    have := hR.le
    omega
  have hbase : (w.alloc (.cells #[.slice ca p.code.length cc, .int .i64 p.ticks, .slice sa p.spans.length sc, .slice wa p.wires.length wc'] 26)).heap.size = w.heap.size + 1 := by simp
  rw [hbase] at R3 hlr
  have R3' := R3.lower (show w.heap.size ≤ w.heap.size + 1 by omega)
  have HR3 : Hid (RK w3 w.heap.size p (.slice ca p.code.length cc) (.slice sa p.spans.length sc) (.slice wa p.wires.length wc') (newK p) a) := R3'
  have HMG : Hid (∀ m ∈ a.m, w.heap.size + 1 ≤ m) := R3.mge
  have HB3 : Hid (Below w.heap.size w w3) := hx3.below
  have k0 := hx3.c0
  have k3 := hx3.c3
  have hlr' : w.heap.size ≤ a.lr := by omega
  clear hx0 hx2 hR R3 R3' b2 b3 hbase hlr
  by_cases hq : q = []
  case neg =>
    have HE : Hid ((snP p t.data.toList).2 = 2) := snP_shape HC.out (Or.inl hq)
    have hqb : (q == ([] : List UInt8)) = false := by simpa using hq
    clear HR3 HG HMG HGF hq
    go_wp2_with fail
    go_ret2
    exact ⟨HB3.out, Or.inl ⟨by rw [HE.out]; decide, none, by rw [HE.out]; rfl⟩⟩
  subst hq
  by_cases hN : ps.length = 1 + p.code.length + p.wires.length
  case neg =>
    have HE : Hid ((snP p t.data.toList).2 = 2) := snP_shape HC.out (Or.inr hN)
    have hN1 : ((ps.length : Int) + 1 != 2 + (p.code.length : Int) + (p.wires.length : Int)) = true := bne_iff_ne.2 (by omega)
    have hN2 : ((ps.length : Int) + 1 == 2 + (p.code.length : Int) + (p.wires.length : Int)) = false := beq_eq_false_iff_ne.2 (by omega)
    clear HR3 HG HMG HGF hN
    go_wp2_with fail
    go_ret2
    exact ⟨HB3.out, Or.inl ⟨by rw [HE.out]; decide, none, by rw [HE.out]; rfl⟩⟩
  have hN1 : ((ps.length : Int) + 1 != 2 + (p.code.length : Int) + (p.wires.length : Int)) = false := by rw [hN]; simp; omega
  have HN : Hid (ps.length = 1 + p.code.length + p.wires.length) := hN
  have hpl2 : ps.length ≤ 18 := by omega
  clear hN
  go_upto_region 7 with fail
  go_loopw [8, 9] (fun b i wr => ∃ (n : Nat) (kk : KD) (bad : Bool) (us : List Value), n ≤ ps.length ∧ i = .int .i64 n ∧ b = .int .i64 (errB bad) ∧ LN p ps n kk bad ∧ RK wr w.heap.size p (.slice ca p.code.length cc) (.slice sa p.spans.length sc) (.slice wa p.wires.length wc') kk { a with us := us } ∧ KTouch a.m w3 wr) (fun _ i _ => ps.length - (intOf i).toNat)
  case atStart => exact ⟨0, newK p, false, a.us, Nat.zero_le _, rfl, rfl, Or.inl ⟨rfl, rfl, rfl⟩, HR3.out, KTouch.refl _ _⟩
  case round =>
  clear k0 k3 hN1 hql
  obtain ⟨n, kk, bad, us, hn, rfl, rfl, hLN, hRK, hTK⟩ := hrel
  have hbx : Bx w wr (.slice ca p.code.length cc) p.ticks (.slice sa p.spans.length sc) (.slice wa p.wires.length wc') := Below.trans hx3 (hTK.below HMG.out hx3.size)
  have HLN : Hid (LN p ps n kk bad) := hLN
  have HRK : Hid (RK wr w.heap.size p (.slice ca p.code.length cc) (.slice sa p.spans.length sc) (.slice wa p.wires.length wc') kk { a with us := us }) := hRK
  have HTK : Hid (KTouch a.m w3 wr) := hTK
  have HGW : Hid (∀ (i : Nat) u, ps[i]? = some u → wr.cell? ⟨g, i, none⟩ = some (.string ⟨u.toArray⟩)) := fun i u hu => (World.cell?_of_block (w := w3) (w' := wr) (a := ⟨g, i, none⟩) (hTK.block g hg3 HGF.out)).trans (HG.out i u hu)
  clear hLN hRK hTK
  generalize wr = WR at *
  by_cases hnl : n < ps.length
  case neg =>
    obtain rfl : n = ps.length := by omega
    have hLI : LI p ps p.code.length p.wires.length kk bad := by
      have hNN := HN.out
      rcases HLN.out with ⟨h1, _⟩ | ⟨_, h2⟩
      · omega
      · rw [show min (ps.length - 1) p.code.length = p.code.length by omega, show ps.length - 1 - p.code.length = p.wires.length by omega] at h2
        exact h2
    obtain ⟨h1, h2⟩ := hLI.done HN.out
    have hsn := snP_some HC.out HN.out h1
    have hni : decide ((ps.length : Int) < (ps.length : Int)) = false := decide_eq_false (by omega)
    cases bad with
    | true =>
      rw [← h2, if_pos rfl] at hsn
      have HE : Hid ((snP p t.data.toList).2 = 1) := by show _ = _; rw [hsn]
      rw [show errB true = 1 from rfl]
      clear hsn h1 h2 hLI HLN HRK HTK HGW hnl
      go_wp2_with fail
      go_ret2
      exact ⟨hbx.below, Or.inl ⟨by rw [HE.out]; decide, none, by rw [HE.out]; rfl⟩⟩
    | false =>
      rw [← h2, if_neg (by decide)] at hsn
      have HE : Hid (snP p t.data.toList = (kk, 0)) := hsn
      rw [show errB false = 0 from rfl]
      clear hsn h1 h2 hLI HLN HTK HGW hnl
      go_wp2_with fail
      go_ret2
      exact ⟨hbx.below, Or.inr ⟨by rw [HE.out], { a with us := us }, rfl, hlr', by rw [HE.out]; exact HRK.out⟩⟩
  have hni : (n : Int) < (ps.length : Int) := by omega
  obtain ⟨u, hu⟩ : ∃ u, ps[n]? = some u := ⟨_, List.getElem?_eq_getElem hnl⟩
  have hcell := HGW.out n u hu
  have HU : Hid (ps[n]? = some u) := hu
  obtain ⟨pw, pws, hcw⟩ := cut_head 32 u
  have HCW : Hid (cutB 32 u = pw :: pws) := hcw
  have hul : u.length ≤ 1099511627776 := by
    have := piece_le HC.out hu
    have e : t.data.toList.length = t.size := by rw [Array.length_toList]; rfl
    omega
  have hpw : pws.length ≤ 1099511627776 := by
    have := cut_many 32 u
    rw [hcw, List.length_cons] at this
    omega
  have qC : Calls Tryz.prog 45 #[.string ⟨u.toArray⟩, .int .u8 32] WR fun e w' => (∃ g2 cap, e = .returned (.slice (some ⟨g2, 0, none⟩) (pws.length + 1) cap) ∧ Hid (Strs w' (.slice (some ⟨g2, 0, none⟩) (pws.length + 1) cap) (pw :: pws)) ∧ g2 < w'.heap.size ∧ w'.cell? ⟨g2, 0, none⟩ = some (.string ⟨pw.toArray⟩)) ∧ Below WR.heap.size WR w' := by
    refine (cut_any ⟨u.toArray⟩ 32 32 rfl WR (by show u.toArray.size ≤ _; simpa using hul)).mono ?_
    rintro e w' ⟨v, rfl, ho, hb⟩
    rw [show (⟨u.toArray⟩ : ByteArray).data.toList = u by simp, hcw] at ho
    have hst := strs_of_own ho (by simp)
    obtain ⟨g2, cap, rfl, hg, hcl⟩ := hst
    exact ⟨⟨g2, cap, rfl, ⟨g2, cap, rfl, hg, hcl⟩, hg, hcl 0 pw rfl⟩, hb⟩
  clear hu hcw
  go_upto_region 10 with (go_at_call 45; refine qC.mono ?_; rintro e w5 ⟨⟨g2, gc2, rfl, HSt, hg2', hpc⟩, b5⟩; clear qC)
  have qM := numbers7_own _ pw pws w5 HSt.out hpw
  have hwn := wn_words HCW.out
  cases hnm : nums7 pws with
  | none =>
    rw [hnm] at qM hwn
    have HE : Hid ((snP p t.data.toList).2 = 2) := snP_none HC.out HN.out (snOf_line HU.out HN.out (fun _ => by unfold stimeOf; rw [hwn]; rfl) (fun _ _ => by unfold sroomOf; rw [hwn]; rfl) (fun _ x => by unfold swireOf; rw [hwn]; rfl))
    have qM' : Calls Tryz.prog 68 #[.slice (some ⟨g2, 0, none⟩) (pws.length + 1) gc2, .int .i64 7] w5 fun e w' => (∃ na n nc, e = .returned (.tuple #[.slice na n nc, .bool false])) ∧ Below w5.heap.size w5 w' := by
      refine qM.mono ?_
      rintro e w' ⟨v', rfl, ho, hb⟩
      obtain ⟨na, n, nc, rfl⟩ := own_form ho
      exact ⟨⟨na, n, nc, rfl⟩, hb⟩
    have HBw : Hid (Below w.heap.size w WR) := hbx.below
    clear qM hwn hnm HLN HRK HTK HGW hbx
    go_wp2_with (go_at_call 68; refine qM'.mono ?_; rintro e w6 ⟨⟨na, n', nc, rfl⟩, b6⟩; clear qM')
    go_ret2
    exact ⟨HBw.out.trans ((b5.trans (b6.mono b5.size)).mono HBw.out.size), Or.inl ⟨by rw [HE.out]; decide, none, by rw [HE.out]; rfl⟩⟩
  | some ns =>
  rw [hnm] at qM hwn
  have HW : Hid (wnL u = some (pw, ns)) := hwn
  have HPOS : Hid (∀ z ∈ ns, 0 ≤ z) := (wn_back hwn).2
  have qM' : Calls Tryz.prog 68 #[.slice (some ⟨g2, 0, none⟩) (pws.length + 1) gc2, .int .i64 7] w5 fun e w' => (∃ na nc, e = .returned (.tuple #[.slice na ns.length nc, .bool true]) ∧ Hid (w'.ownsRow w5.heap.size 3 1 (.slice na ns.length nc) ns.length (ns.map (Value.int .i64)) ∧ ∀ (j : Nat) x, ns[j]? = some x → ∃ nb, na = some ⟨nb, 0, none⟩ ∧ w5.heap.size ≤ nb ∧ nb < w'.heap.size ∧ ns.length ≤ nc ∧ nc ≤ maxLen)) ∧ Below w5.heap.size w5 w' := by
    refine qM.mono ?_
    rintro e w' ⟨v', rfl, ho, hb⟩
    have ho' : w'.ownsRow w5.heap.size 3 1 v' ns.length (ns.map (Value.int .i64)) := ho
    obtain ⟨na, nc, rfl, h2⟩ := own_ints ho'
    exact ⟨⟨na, nc, rfl, ho', h2⟩, hb⟩
  clear qM hwn hnm
  have hnsl : ns.length ≤ 1099511627776 := by
    have := (nums7_back (ps := pws) (ns := ns) (by
      have := wn_words HCW.out
      rw [HW.out] at this
      cases h7 : nums7 pws with
      | none => rw [h7] at this; cases this
      | some l =>
        rw [h7] at this
        injection this with e
        injection e with e1 e2
        rw [e2])).2.1
    omega
  go_upto_region 13 with (go_at_call 68; refine qM'.mono ?_; rintro e w6 ⟨⟨na, nc, rfl, HO⟩, b6⟩; clear qM')
  have b56 := b5.trans (b6.mono b5.size)
  have hpc6 : w6.cell? ⟨g2, 0, none⟩ = some (.string ⟨pw.toArray⟩) := (b6.cell (p := ⟨g2, 0, none⟩) hg2').trans hpc
  have hbx6 := hbx.step b56
  have HR6 : Hid (RK w6 w.heap.size p (.slice ca p.code.length cc) (.slice sa p.spans.length sc) (.slice wa p.wires.length wc') kk { a with us := us }) := HRK.out.all b56
  have HT6 : Hid (KTouch a.m w3 w6) := HTK.out.trans (KTouch.of b56)
  have HRW : Hid (RK WR w.heap.size p (.slice ca p.code.length cc) (.slice sa p.spans.length sc) (.slice wa p.wires.length wc') kk { a with us := us } ∧ Below WR.heap.size WR w6 ∧ WR.heap.size ≤ w5.heap.size ∧ KTouch a.m w3 WR) := ⟨HRK.out, b56, b5.size, HTK.out⟩
  clear HRK HTK HGW hbx hcell hpc b5 b6 b56 HSt hg2'
  generalize w6 = W at *
  have k0 := hbx6.c0
  by_cases hn0 : n = 0
  · subst hn0
    obtain ⟨rfl, rfl⟩ : kk = newK p ∧ bad = false := by
      rcases HLN.out with ⟨_, h1, h2⟩ | ⟨h1, _⟩
      · exact ⟨h1, h2⟩
      · omega
    clear HLN
    by_cases hpt : pw = snTimeW
    case neg =>
      have HE : Hid ((snP p t.data.toList).2 = 2) := snP_none HC.out HN.out (snOf_line HU.out HN.out (fun _ => stime_none HW.out (Or.inl hpt)) (fun h => by omega) (fun h => by omega))
      have hpb : (pw == [116, 105, 109, 101]) = false := by simpa [snTimeW] using hpt
      clear HW hpt HR6 HT6 HO
      go_wp2_with fail
      go_ret2
      exact ⟨hbx6.below, Or.inl ⟨by rw [HE.out]; decide, none, by rw [HE.out]; rfl⟩⟩
    by_cases hl1 : ns.length = 1
    case neg =>
      have HE : Hid ((snP p t.data.toList).2 = 2) := snP_none HC.out HN.out (snOf_line HU.out HN.out (fun _ => stime_none HW.out (Or.inr hl1)) (fun h => by omega) (fun h => by omega))
      have hpb : (pw == [116, 105, 109, 101]) = true := by simpa [snTimeW] using hpt
      have hlb : ((ns.length : Int) != 1) = true := bne_iff_ne.2 (by omega)
      have hlb2 : ((ns.length : Int) == 1) = false := beq_eq_false_iff_ne.2 (by omega)
      have hlb3 : (ns.length == 1) = false := beq_eq_false_iff_ne.2 hl1
      clear HW hpt HR6 HT6 HO hl1
      go_wp2_with fail
      go_ret2
      exact ⟨hbx6.below, Or.inl ⟨by rw [HE.out]; decide, none, by rw [HE.out]; rfl⟩⟩
    obtain ⟨x, rfl⟩ : ∃ x, ns = [x] := by
      cases ns with
      | nil => cases hl1
      | cons x ns =>
        cases ns with
        | nil => exact ⟨x, rfl⟩
        | cons y ns => simp at hl1
    subst hpt
    obtain ⟨nb, rfl, hnb1, hnb2, _⟩ := HO.out.2 0 x rfl
    have hx := own_int_at HO.out.1 (j := 0) (x := x) rfl
    have c6 := HR6.out.c6
    have f6 := HR6.out.f6
    have HNW : Hid (LN p ps 1 ⟨(newK p).rooms, (newK p).lines, x⟩ false) := Or.inr ⟨by omega, by
      rw [Nat.sub_self, Nat.zero_min, Nat.zero_sub]
      exact LI.first HU.out (stime_some HW.out)⟩
    have HRN : Hid (RK (W.setCell ⟨a.kb, 6, none⟩ (.int .i64 x)) w.heap.size p (.slice ca p.code.length cc) (.slice sa p.spans.length sc) (.slice wa p.wires.length wc') ⟨(newK p).rooms, (newK p).lines, x⟩ { a with us := us }) := HR6.out.tick x
    have hpb : (snTimeW == [116, 105, 109, 101]) = true := rfl
    clear HW HO hl1
    go_wp2_with fail
    go_roundw
    case rel => exact ⟨1, _, false, us, by omega, by go_num, rfl, HNW.out, HRN.out, HT6.out.trans (KTouch.set _ (by simp [KW.m]) 6 _)⟩
    case measure => simp [intOf]; omega
  have hn1 : 1 ≤ n := by omega
  have hz0 : ((n : Int) == 0) = false := beq_eq_false_iff_ne.2 (by omega)
  have hz1 : (n == 0) = false := beq_eq_false_iff_ne.2 hn0
  have HLI : Hid (LI p ps (min (n - 1) p.code.length) (n - 1 - p.code.length) kk bad) := by
    rcases HLN.out with ⟨h1, _⟩ | ⟨_, h2⟩
    · exact absurd h1 hn0
    · exact h2
  have hkl := HLN.out.len HN.out hn
  by_cases hnr : n ≤ p.code.length
  · obtain ⟨r, hnr1⟩ : ∃ r, n = r + 1 := ⟨n - 1, by omega⟩
    subst hnr1
    have hri : decide (((r + 1 : Nat) : Int) ≤ (p.code.length : Int)) = true := decide_eq_true (by omega)
    have hrn : decide (r + 1 ≤ p.code.length) = true := decide_eq_true hnr
    have hrl : r < p.code.length := by omega
    by_cases hpt : pw = snRoomW
    case neg =>
      have HE : Hid ((snP p t.data.toList).2 = 2) := snP_none HC.out HN.out (snOf_line HU.out HN.out (fun h => by omega) (fun _ _ => sroom_none HW.out (Or.inl hpt)) (fun h => by omega))
      have hpb : (pw == [114, 111, 111, 109]) = false := by simpa [snRoomW] using hpt
      clear hpt HLI
      clear HW HR6 HT6 HO HLN
      go_wp2_with fail
      go_ret2
      exact ⟨hbx6.below, Or.inl ⟨by rw [HE.out]; decide, none, by rw [HE.out]; rfl⟩⟩
    have hpb : (pw == [114, 111, 111, 109]) = true := by simpa [snRoomW] using hpt
    by_cases hl8 : ns.length = 8
    case neg =>
      have HE : Hid ((snP p t.data.toList).2 = 2) := snP_none HC.out HN.out (snOf_line HU.out HN.out (fun h => by omega) (fun _ _ => sroom_none HW.out (Or.inr (stOf_len hl8))) (fun h => by omega))
      have hlb : ((ns.length : Int) != 8) = true := bne_iff_ne.2 (by omega)
      have hlb2 : ((ns.length : Int) == 8) = false := beq_eq_false_iff_ne.2 (by omega)
      have hlb3 : (ns.length == 8) = false := beq_eq_false_iff_ne.2 hl8
      clear hpt HLI hl8
      clear HW HR6 HT6 HO HLN
      go_wp2_with fail
      go_ret2
      exact ⟨hbx6.below, Or.inl ⟨by rw [HE.out]; decide, none, by rw [HE.out]; rfl⟩⟩
    obtain ⟨a0, c0, c1, c2, c3, c4, c5, f, rfl⟩ := eight hl8
    obtain ⟨nb, rfl, hnb1, hnb2, _⟩ := HO.out.2 0 a0 rfl
    have x0 := own_int_at HO.out.1 (j := 0) (x := a0) rfl
    have x7 := own_int_at HO.out.1 (j := 7) (x := f) rfl
    have HXC : Hid (∀ c : Nat, c < 6 → W.cell? ⟨nb, 1 + c, none⟩ = some (.int .i64 ([a0, c0, c1, c2, c3, c4, c5, f].getD (1 + c) 0))) := fun c hc => own_int_at HO.out.1 (by
      match c, hc with
      | 0, _ => rfl
      | 1, _ => rfl
      | 2, _ => rfl
      | 3, _ => rfl
      | 4, _ => rfl
      | 5, _ => rfl)
    simp only [List.length_cons, List.length_nil, Nat.zero_add, Nat.reduceAdd] at *
    by_cases hf1 : 1 < f
    · have HE : Hid ((snP p t.data.toList).2 = 2) := snP_none HC.out HN.out (snOf_line HU.out HN.out (fun h => by omega) (fun _ _ => sroom_none HW.out (Or.inr (by unfold stOf; simp only; rw [if_pos hf1]))) (fun h => by omega))
      have hfb : decide (1 < f) = true := decide_eq_true hf1
      clear hpt HLI hl8 HXC hf1
      clear HW HR6 HT6 HO HLN
      go_wp2_with fail
      go_ret2
      exact ⟨hbx6.below, Or.inl ⟨by rw [HE.out]; decide, none, by rw [HE.out]; rfl⟩⟩
    have hfb : decide (1 < f) = false := decide_eq_false hf1
    have hf0 : 0 ≤ f := HPOS.out f (by simp)
    have HSO : Hid (sroomOf u = some (stQ [a0, c0, c1, c2, c3, c4, c5, f] 6 (decide (f = 1)))) := by
      show _ = _
      rw [hpt] at HW
      rw [sroom_some HW.out]
      exact stQ_all hf1
    obtain ⟨fb, hfb1⟩ : ∃ fb : Bool, fb = decide (f = 1) := ⟨_, rfl⟩
    have hfeq : (f == 1) = fb := by rw [hfb1]; rfl
    rw [← hfb1] at HSO
    clear hpt HW hl8 hf1 hfb1 HPOS HO
    go_upto_region 20 with fail
    go_cut [13] from 53 to 104 (fun s13 wx => ∃ b, s13 = .pointer (some ⟨b, 0, none⟩) ∧ StB wx b (stQ [a0, c0, c1, c2, c3, c4, c5, f] 0 fb) ∧ Below W.heap.size W wx ∧ W.heap.size ≤ b)
    case first =>
      have hq : ∀ W', Below W.heap.size W W' → W'.cell? ⟨nb, 0, none⟩ = some (.int .i64 a0) ∧ W'.cell? ⟨nb, 7, none⟩ = some (.int .i64 f) := fun W' hb => ⟨(hb.cell (p := ⟨nb, 0, none⟩) hnb2).trans x0, (hb.cell (p := ⟨nb, 7, none⟩) hnb2).trans x7⟩
      go_region_held3 (fun W' => W'.cell? ⟨nb, 0, none⟩ = some (.int .i64 a0) ∧ W'.cell? ⟨nb, 7, none⟩ = some (.int .i64 f))
        (first | with_reducible exact ⟨x0, x7⟩ | with_reducible exact hq _ (((Below.refl _ _).alloc (Nat.le_refl _) _)) | with_reducible exact hq _ (((Below.refl _ _).drew.alloc (Nat.le_refl _) _)) | go_keep)
        (first | fail)
      go_wp2_with fail
      go_meet
      case rel => exact ⟨W.heap.size, rfl, World.alloc_heap_new W _, ((Below.refl _ _).alloc (Nat.le_refl _) _).drew, Nat.le_refl _⟩
    case rest =>
    obtain ⟨b, rfl, hst0, hbc, hbg⟩ := hcut
    clear x0 x7 hfeq hfb
    have hblt : b < wc.heap.size := (Array.getElem?_eq_some_iff.1 hst0).1
    generalize wc = W2 at *
    go_upto_region 22 with fail
    go_loopw [14] (fun c wy => ∃ n : Nat, n ≤ 6 ∧ c = .int .i64 n ∧ StB wy b (stQ [a0, c0, c1, c2, c3, c4, c5, f] n fb) ∧ KTouch [b] W2 wy) (fun c _ => 6 - (intOf c).toNat)
    case atStart => exact ⟨0, Nat.zero_le _, rfl, hst0, KTouch.refl _ _⟩
    case round =>
    clear hst0
    obtain ⟨n, hn6, rfl, hst, hti⟩ := hrel
    have hbi : Below W.heap.size W wr := hbc.trans (hti.below (B := W.heap.size) (fun m hm => by rw [List.mem_singleton] at hm; subst hm; exact hbg) hbc.size)
    by_cases hnl6 : n < 6
    · have hni6 : (n : Int) < 6 := by omega
      have hx := (hbi.cell (p := ⟨nb, 1 + n, none⟩) hnb2).trans (HXC.out n hnl6)
      obtain ⟨v0, hv0⟩ := stb_some hst hnl6
      have hfz := stb_free hst (1 + n)
      have HST : Hid (StB (wr.setCell ⟨b, 1 + n, none⟩ (.int .i64 ([a0, c0, c1, c2, c3, c4, c5, f].getD (1 + n) 0))) b (stQ [a0, c0, c1, c2, c3, c4, c5, f] (n + 1) fb)) := stQ_set hst hnl6
      have hne : b ≠ nb := by omega
      have hix : (1 : Int) + (n : Int) < 8 := by omega
      obtain ⟨zx, hzx⟩ : ∃ z, z = [a0, c0, c1, c2, c3, c4, c5, f].getD (1 + n) 0 := ⟨_, rfl⟩
      rw [← hzx] at hx HST
      clear hst hzx
      go_wp2_with fail
      go_roundw
      case rel => exact ⟨n + 1, by omega, by go_num, HST.out, hti.trans (KTouch.set _ (by simp) _ _)⟩
      case measure => simp [intOf]; omega
    obtain rfl : n = 6 := by omega
    obtain ⟨sN, hsN⟩ : ∃ s, s = stQ [a0, c0, c1, c2, c3, c4, c5, f] 6 fb := ⟨_, rfl⟩
    rw [← hsN] at hst HSO
    clear hsN HXC hnl6 hn6
    obtain ⟨cb, co, ua, un, ug, c, rfl, hclt, hcy, hcd, rfl, _⟩ := HP.out.code.at hrl
    have hbxr := hbx6.step hbi
    replace hcd := (hbxr.below.cell (p := ⟨cb, co + r, none⟩) hclt).trans hcd
    have HR7 : Hid (RK wr w.heap.size p (.slice (some ⟨cb, co, none⟩) p.code.length cc) (.slice sa p.spans.length sc) (.slice wa p.wires.length wc') kk { a with us := us }) := HR6.out.all hbi
    have HT7 : Hid (KTouch a.m w3 wr) := HT6.out.trans (KTouch.of hbi)
    have HLX : Hid (LN p ps (r + 1 + 1) ⟨kk.rooms.set r sN, kk.lines, kk.time⟩ (bad || !stOk sN c.length)) := Or.inr ⟨by omega, by
      have hli := HLI.out
      rw [show min (r + 1 - 1) p.code.length = r by omega, show r + 1 - 1 - p.code.length = 0 by omega] at hli
      rw [show min (r + 1 + 1 - 1) p.code.length = r + 1 by omega, show r + 1 + 1 - 1 - p.code.length = 0 by omega]
      exact hli.room hrl HU.out HSO.out hcy⟩
    obtain ⟨s0, hs0⟩ : ∃ s, kk.rooms[r]? = some s := ⟨_, List.getElem?_eq_getElem (by omega)⟩
    have HS0 : Hid (kk.rooms[r]? = some s0) := hs0
    clear HR6 HT6 HLI HSO hcy hs0 k0 hbx6 hbi hti hbc hblt hbg
    have k0 := hbxr.c0
    obtain ⟨n0, n1, n2, n3, n4, n5, n6, n7⟩ := hst.cs
    simp only [Nat.zero_add] at n1 n2 n3 n4 n5 n6 n7
    have qS : Calls Tryz.prog 69 #[.agg #[.int .i64 sN.p, .int .i64 (sN.c 0), .int .i64 (sN.c 1), .int .i64 (sN.c 2), .int .i64 (sN.c 3), .int .i64 (sN.c 4), .int .i64 (sN.c 5), .bool sN.f], .int .i64 c.length] wr.drew fun e w' => e = .returned (.bool (stOk sN c.length)) ∧ Below wr.drew.heap.size wr.drew w' := refstate_any sN c.length wr.drew
    have hri2 : (r : Int) < (p.code.length : Int) := by omega
    generalize wr = WI at *
    go_upto_region 25 with fail
    go_cut [12] from 105 to 125 (fun s12 wx => s12 = .bool (stOk sN c.length) ∧ Below WI.heap.size WI wx)
    case first =>
      refine wp_region_popped (fun W' => (W'.cell? ⟨b, 0, none⟩ = some (.int .i64 sN.p) ∧ W'.cell? ⟨b, 1, none⟩ = some (.int .i64 (sN.c 0)) ∧ W'.cell? ⟨b, 2, none⟩ = some (.int .i64 (sN.c 1)) ∧ W'.cell? ⟨b, 3, none⟩ = some (.int .i64 (sN.c 2)) ∧ W'.cell? ⟨b, 4, none⟩ = some (.int .i64 (sN.c 3)) ∧ W'.cell? ⟨b, 5, none⟩ = some (.int .i64 (sN.c 4)) ∧ W'.cell? ⟨b, 6, none⟩ = some (.int .i64 (sN.c 5)) ∧ W'.cell? ⟨b, 7, none⟩ = some (.bool sN.f)) ∧ W'.cell? ⟨w.heap.size, 0, none⟩ = some (.slice (some ⟨cb, co, none⟩) p.code.length cc) ∧ W'.cell? ⟨cb, co + r, none⟩ = some (.slice ua c.length ug)) (by kernel_rfl) rfl (by decide +kernel) ⟨⟨n0, n1, n2, n3, n4, n5, n6, n7⟩, k0, hcd⟩ (fun hHeld => ?_)
      simp only [List.pop_toArray, List.dropLast_cons_cons, List.dropLast_singleton, List.size_toArray, List.length_cons, List.length_nil, Nat.reduceAdd, Array.replicate_succ, Array.replicate_zero, List.push_toArray, List.nil_append, List.cons_append]
      refine wpAnyH_take (i := 0) (v := ?_) rfl (by decide +kernel) (by decide +kernel) (by decide +kernel) (fun _ _ _ h => h) (Or.inl ⟨by rfl, ?_⟩) (by assumption) ?_
      rotate_left
      · intro W' hSw
        try dsimp only at hSw
        obtain ⟨⟨hS0, hS1, hS2, hS3, hS4, hS5, hS6, hS7⟩, hS8, hS9⟩ := hSw
        go_simp
        try with_reducible rfl
      simp only [Act.put, List.setIfInBounds_toArray, List.set_cons_zero]
      refine wpAnyH_take (i := 1) (v := ?_) rfl (by decide +kernel) (by decide +kernel) (by decide +kernel) (fun _ _ _ h => h) (Or.inl ⟨by rfl, ?_⟩) (by assumption) ?_
      rotate_left
      · intro W' hSw
        try dsimp only at hSw
        obtain ⟨⟨hS0, hS1, hS2, hS3, hS4, hS5, hS6, hS7⟩, hS8, hS9⟩ := hSw
        go_simp
        try with_reducible rfl
      simp only [Act.put, List.setIfInBounds_toArray, List.set_cons_zero, List.set_cons_succ]
      refine wpAnyH_take (i := 2) (v := ?_) rfl (by decide +kernel) (by decide +kernel) (by decide +kernel) (fun _ _ _ h => h) (Or.inl ⟨by rfl, ?_⟩) (by assumption) ?_
      rotate_left
      · intro W' hSw
        try dsimp only at hSw
        obtain ⟨⟨hS0, hS1, hS2, hS3, hS4, hS5, hS6, hS7⟩, hS8, hS9⟩ := hSw
        go_simp
        try with_reducible rfl
      simp only [Act.put, List.setIfInBounds_toArray, List.set_cons_zero, List.set_cons_succ]
      refine wpAnyH_take (i := 3) (v := ?_) rfl (by decide +kernel) (by decide +kernel) (by decide +kernel) (fun _ _ _ h => h) (Or.inl ⟨by rfl, ?_⟩) (by assumption) ?_
      rotate_left
      · intro W' hSw
        try dsimp only at hSw
        obtain ⟨⟨hS0, hS1, hS2, hS3, hS4, hS5, hS6, hS7⟩, hS8, hS9⟩ := hSw
        go_simp
        try with_reducible rfl
      simp only [Act.put, List.setIfInBounds_toArray, List.set_cons_zero, List.set_cons_succ]
      refine wpAnyH_take (i := 4) (v := .int .i64 (r : Int)) rfl (by decide +kernel) (by decide +kernel) (by decide +kernel) (fun _ _ _ h => h) (Or.inl ⟨by rfl, ?_⟩) (by assumption) ?_
      · intro W' hSw
        try dsimp only at hSw
        obtain ⟨⟨hS0, hS1, hS2, hS3, hS4, hS5, hS6, hS7⟩, hS8, hS9⟩ := hSw
        go_simp
        exact IntWalk.i64_in _ (by omega)
      simp only [Act.put, List.setIfInBounds_toArray, List.set_cons_zero, List.set_cons_succ]
      refine wpAnyH_take (i := 5) (v := .pointer (some ⟨cb, co + r, none⟩)) rfl (by decide +kernel) (by decide +kernel) (by decide +kernel) (fun _ _ _ h => h) (Or.inl ⟨by rfl, ?_⟩) (by assumption) ?_
      · intro W' hSw
        try dsimp only at hSw
        obtain ⟨⟨hS0, hS1, hS2, hS3, hS4, hS5, hS6, hS7⟩, hS8, hS9⟩ := hSw
        go_simp
      simp only [Act.put, List.setIfInBounds_toArray, List.set_cons_zero, List.set_cons_succ]
      refine wpAnyH_take (i := 6) (v := ?_) rfl (by decide +kernel) (by decide +kernel) (by decide +kernel) (fun _ _ _ h => h) (Or.inl ⟨by rfl, ?_⟩) (by assumption) ?_
      rotate_left
      · intro W' hSw
        try dsimp only at hSw
        obtain ⟨⟨hS0, hS1, hS2, hS3, hS4, hS5, hS6, hS7⟩, hS8, hS9⟩ := hSw
        go_simp
        try with_reducible rfl
      simp only [Act.put, List.setIfInBounds_toArray, List.set_cons_zero, List.set_cons_succ]
      refine wpAnyH_take (i := 7) (v := ?_) rfl (by decide +kernel) (by decide +kernel) (by decide +kernel) (fun _ _ _ h => h) (Or.inl ⟨by rfl, ?_⟩) (by assumption) ?_
      rotate_left
      · intro W' hSw
        try dsimp only at hSw
        obtain ⟨⟨hS0, hS1, hS2, hS3, hS4, hS5, hS6, hS7⟩, hS8, hS9⟩ := hSw
        go_simp
        try with_reducible rfl
      simp only [Act.put, List.setIfInBounds_toArray, List.set_cons_zero, List.set_cons_succ]
      refine wpAnyH_ready (rs := [8]) (by decide +kernel) (by simp) ?_
      refine AllReadyH.cons (o := _) rfl (fun K hK => ?_) AllReadyH.nil
      go_simp
      go_at_call 69
      refine qS.mono ?_
      rintro e w7 ⟨rfl, b7⟩
      have hb7 : Below WI.heap.size WI w7 := (Below.refl _ WI).drew.trans (b7.mono (Nat.le_refl _))
      have hblt : b < WI.heap.size := (Array.getElem?_eq_some_iff.1 hst).1
      have hq7 := fun o => hb7.cell (p := ⟨b, o, none⟩) hblt
      go_wp2_with fail
      refine hK.out _ _ ⟨⟨(hq7 0).trans n0, (hq7 1).trans n1, (hq7 2).trans n2, (hq7 3).trans n3, (hq7 4).trans n4, (hq7 5).trans n5, (hq7 6).trans n6, (hq7 7).trans n7⟩, (hb7.cell (p := ⟨w.heap.size, 0, none⟩) (wlt k0)).trans k0, (hb7.cell (p := ⟨cb, co + r, none⟩) (wlt hcd)).trans hcd⟩ (fun hHeld => ?_)
      clear hK K
      simp only [List.setIfInBounds_toArray, List.set_cons_zero, List.set_cons_succ]
      refine wpAnyH_done (by decide +kernel) ?_ _
      show Oper.wp _ _ _ _ _ _
      go_simp
      go_wp2_with fail
      go_meet
      case rel => exact ⟨rfl, hb7⟩
    case rest =>
    obtain ⟨rfl, hb7⟩ := hcut
    replace HR7 : Hid (RK wc w.heap.size p (.slice (some ⟨cb, co, none⟩) p.code.length cc) (.slice sa p.spans.length sc) (.slice wa p.wires.length wc') kk { a with us := us }) := HR7.out.all hb7
    replace HT7 : Hid (KTouch a.m w3 wc) := HT7.out.trans (KTouch.of hb7)
    have hst7 : StB wc b sN := (hb7.block _ (Array.getElem?_eq_some_iff.1 hst).1).trans hst
    clear n0 n1 n2 n3 n4 n5 n6 n7 qS k0 hcd hst hbxr hb7
    generalize wc = W7 at *
    obtain ⟨n0, n1, n2, n3, n4, n5, n6, n7⟩ := hst7.cs
    simp only [Nat.zero_add] at n1 n2 n3 n4 n5 n6 n7
    have c4 := HR7.out.c4
    rw [hkl.1] at c4
    have hth : ∀ nq, (W7.drewN nq).there a.rb (r * 8) 8 := fun nq => there_st (HR7.out.rooms r s0 HS0.out) HR7.out.rf nq
    cases hok : stOk sN c.length with
    | true =>
      rw [hok] at HLX
      clear hok
      go_upto_region 28 with fail
      refine wp_region_quiet_last (by kernel_rfl) rfl (by decide +kernel) (by decide +kernel) ?_
      simp only [List.dropLast_cons_cons, List.dropLast_singleton]
      repeat (go_big_quiet_step (fail))
      refine wpQuiet_nil ?_
      intro _ hw'
      obtain ⟨nq, hw''⟩ := hw'
      subst hw''
      refine wp_store_mid _ _ _ rfl a.rb (r * 8) _ rfl rfl (hth nq) rfl (by simp [Value.oneCell']) ?_
      have bN : Below W7.heap.size W7 (W7.drewN nq) := below_dN (Below.refl _ _) nq
      have HRN : Hid (RK (setSt (W7.drewN nq) a.rb (r * 8) sN) w.heap.size p (.slice (some ⟨cb, co, none⟩) p.code.length cc) (.slice sa p.spans.length sc) (.slice wa p.wires.length wc') ⟨kk.rooms.set r sN, kk.lines, kk.time⟩ { a with us := us }) := (HR7.out.all bN).room_set HS0.out sN
      have HTN : Hid (KTouch a.m w3 (setSt (W7.drewN nq) a.rb (r * 8) sN)) := (HT7.out.trans (KTouch.of bN)).trans (setSt_touch _ (by simp [KW.m]) _ _)
      go_wp2_with fail
      go_roundw
      case rel => exact ⟨r + 1 + 1, _, _, us, by omega, by go_num, by simp, HLX.out, HRN.out, HTN.out⟩
      case measure => simp [intOf]; omega
    | false =>
      rw [hok] at HLX
      clear hok
      go_upto_region 28 with fail
      refine wp_region_quiet_last (by kernel_rfl) rfl (by decide +kernel) (by decide +kernel) ?_
      simp only [List.dropLast_cons_cons, List.dropLast_singleton]
      repeat (go_big_quiet_step (fail))
      refine wpQuiet_nil ?_
      intro _ hw'
      obtain ⟨nq, hw''⟩ := hw'
      subst hw''
      refine wp_store_mid _ _ _ rfl a.rb (r * 8) _ rfl rfl (hth nq) rfl (by simp [Value.oneCell']) ?_
      have bN : Below W7.heap.size W7 (W7.drewN nq) := below_dN (Below.refl _ _) nq
      have HRN : Hid (RK (setSt (W7.drewN nq) a.rb (r * 8) sN) w.heap.size p (.slice (some ⟨cb, co, none⟩) p.code.length cc) (.slice sa p.spans.length sc) (.slice wa p.wires.length wc') ⟨kk.rooms.set r sN, kk.lines, kk.time⟩ { a with us := us }) := (HR7.out.all bN).room_set HS0.out sN
      have HTN : Hid (KTouch a.m w3 (setSt (W7.drewN nq) a.rb (r * 8) sN)) := (HT7.out.trans (KTouch.of bN)).trans (setSt_touch _ (by simp [KW.m]) _ _)
      go_wp2_with fail
      go_roundw
      case rel => exact ⟨r + 1 + 1, _, _, us, by omega, by go_num, by simp [errB], HLX.out, HRN.out, HTN.out⟩
      case measure => simp [intOf]; omega
  obtain ⟨m, hm⟩ : ∃ m, n = m + 1 + p.code.length := ⟨n - 1 - p.code.length, by omega⟩
  have hmw : m < p.wires.length := by have := HN.out; omega
  have hnr1 : decide ((n : Int) ≤ (p.code.length : Int)) = false := decide_eq_false (by omega)
  have hnr2 : decide (n ≤ p.code.length) = false := decide_eq_false hnr
  by_cases hpt : pw = snWireW
  case neg =>
    have HE : Hid ((snP p t.data.toList).2 = 2) := snP_none HC.out HN.out (snOf_line HU.out HN.out (fun h => by omega) (fun _ h => by omega) (fun _ x => swire_none HW.out (Or.inl hpt) x))
    have hpb : (pw == [119, 105, 114, 101]) = false := by simpa [snWireW] using hpt
    clear hpt hm
    clear HW HR6 HT6 HO HLN HLI
    go_wp2_with fail
    go_ret2
    exact ⟨hbx6.below, Or.inl ⟨by rw [HE.out]; decide, none, by rw [HE.out]; rfl⟩⟩
  have hpb : (pw == [119, 105, 114, 101]) = true := by simpa [snWireW] using hpt
  by_cases hl0 : ns = []
  · subst hl0
    have HE : Hid ((snP p t.data.toList).2 = 2) := snP_none HC.out HN.out (snOf_line HU.out HN.out (fun h => by omega) (fun _ h => by omega) (fun _ x => swire_none HW.out (Or.inr rfl) x))
    clear hpt hm
    simp only [List.length_nil] at *
    clear HW HR6 HT6 HO HLN HLI
    go_wp2_with fail
    go_ret2
    exact ⟨hbx6.below, Or.inl ⟨by rw [HE.out]; decide, none, by rw [HE.out]; rfl⟩⟩
  obtain ⟨x0, xs, rfl⟩ := List.exists_cons_of_ne_nil hl0
  obtain ⟨nb, rfl, hnb1, hnb2, hncl, hncm⟩ := HO.out.2 0 x0 rfl
  have q0 := own_int_at HO.out.1 (j := 0) (x := x0) rfl
  have HXS : Hid (∀ (j : Nat) x, xs[j]? = some x → W.cell? ⟨nb, 1 + j, none⟩ = some (.int .i64 x)) := fun j x hj => own_int_at HO.out.1 (by rw [Nat.add_comm]; simpa using hj)
  obtain ⟨x, hx⟩ : ∃ x, p.wires[m]? = some x := ⟨_, List.getElem?_eq_getElem hmw⟩
  have hli := HLI.out
  rw [show min (n - 1) p.code.length = p.code.length by omega, show n - 1 - p.code.length = m by omega] at hli
  have hlm := hli.line_at hx
  have HSW : Hid (swireOf x u = some ⟨x, xs, x0⟩) := by
    show _ = _
    rw [hpt] at HW
    exact swire_some HW.out x
  have HLX : Hid (LN p ps (n + 1) ⟨kk.rooms, kk.lines.set m ⟨x, xs, x0⟩, kk.time⟩ (bad || lineBad ⟨x, xs, x0⟩)) := Or.inr ⟨by omega, by
    rw [show min (n + 1 - 1) p.code.length = p.code.length by omega, show n + 1 - 1 - p.code.length = m + 1 by omega]
    exact hli.wire (by rw [← hm]; exact HU.out) hx HSW.out⟩
  obtain ⟨b, hbb⟩ : ∃ b, a.bs[m]? = some b := ⟨_, List.getElem?_eq_getElem (by have := HR6.out.bl; simp only at this; omega)⟩
  obtain ⟨uu, huu⟩ : ∃ v, us[m]? = some v := ⟨_, List.getElem?_eq_getElem (by have := HR6.out.ul; simp only at this; omega)⟩
  have hptr := HR6.out.ptr m b hbb
  have hln := HR6.out.line m _ b uu hlm hbb huu
  obtain ⟨cap, hlv⟩ : ∃ cap, a.lv = .slice (some ⟨a.lr, 0, none⟩) p.wires.length cap := by
    rcases HR6.out.lv with ⟨h0, _⟩ | ⟨cap, h1, _⟩
    · rw [h0] at hlm
      cases hlm
    · rw [hkl.2] at h1
      exact ⟨cap, h1⟩
  have c5 := HR6.out.c5
  rw [show ({ a with us := us } : KW).lv = a.lv from rfl, hlv] at c5
  obtain ⟨w2', w3', w4', w5', f4, f5⟩ := hln.c
  have HLN2 : Hid (Rl W a.b1 b x.2.2.1 x.2.2.2 [] 0 uu) := hln
  have HBU : Hid (a.bs[m]? = some b ∧ us[m]? = some uu) := ⟨hbb, huu⟩
  have hs1 : IntKind.i64.wrap ((n : Int) - 1) = (n : Int) - 1 := IntWalk.i64_in _ (by omega)
  have hs2 : IntKind.i64.wrap ((n : Int) - 1 - (p.code.length : Int)) = (m : Int) := by
    rw [IntWalk.i64_in _ (by omega)]
    omega
  have hs3 : (n : Int) - 1 - (p.code.length : Int) = (m : Int) := by omega
  have hmi : (m : Int) < (p.wires.length : Int) := by omega
  clear hpt HW HLI hli hlm hx HSW hbb huu hlv hln hl0 HO hm HLN
  simp only [List.length_cons] at hnsl hncl ⊢
  go_upto_region 31 with fail
  go_cut [15] from 136 to 156 (fun s15 wx => s15 = .pointer (some ⟨b, 0, none⟩) ∧ Below W.heap.size W wx)
  case first =>
    go_quiet (fail)
    go_wp2_with fail
    go_meet
    case rel => exact ⟨rfl, below_dN (Below.refl _ _) _⟩
  case rest =>
  obtain ⟨rfl, hb8⟩ := hcut
  replace q0 := (hb8.cell (p := ⟨nb, 0, none⟩) hnb2).trans q0
  replace w2' := (hb8.cell (p := ⟨b, 2, none⟩) (wlt w2')).trans w2'
  replace w3' := (hb8.cell (p := ⟨b, 3, none⟩) (wlt w3')).trans w3'
  have HX8 : Hid (∀ (j : Nat) z, xs[j]? = some z → wc.cell? ⟨nb, j + 1, none⟩ = some (.int .i64 z)) := fun j z hj => (hb8.cell (p := ⟨nb, j + 1, none⟩) hnb2).trans (by rw [Nat.add_comm]; exact HXS.out j z hj)
  have HW8 : Hid (Below WR.heap.size WR wc) := HRW.out.2.1.trans (hb8.mono HRW.out.2.1.size)
  have hnb8 : nb < wc.heap.size := Nat.lt_of_lt_of_le hnb2 hb8.size
  have hbx8 := hbx6.step hb8
  have HLN8 : Hid (Rl wc a.b1 b x.2.2.1 x.2.2.2 [] 0 uu) := by
    have h8 := HR6.out.all hb8
    obtain ⟨kl, hkl8⟩ : ∃ l, kk.lines[m]? = some l := ⟨_, List.getElem?_eq_getElem (by omega)⟩
    exact ⟨HLN2.out.c.block (hb8.block b (wlt w4')), HLN2.out.rd.all hb8, fun q hq => ⟨(HLN2.out.own q hq).1, Nat.lt_of_lt_of_le (HLN2.out.own q hq).2 hb8.size⟩, HLN2.out.lt, Nat.le_trans HLN2.out.le hb8.size⟩
  clear HXS HLN2 w4' w5' f4 f5 hptr c5 k0 hbx6 HR6 HT6 hb8 hnb2
  generalize wc = W8 at *
  obtain ⟨q, hq⟩ : ∃ q : Bool, q = (decide (x.2.2.2 < (xs.length : Int)) || (decide (x.2.2.1 = 1) && decide (x0 ≠ 0))) := ⟨_, rfl⟩
  have HQ : Hid (q = (decide (x.2.2.2 < (xs.length : Int)) || (decide (x.2.2.1 = 1) && decide (x0 ≠ 0)))) := hq
  clear hq
  have hs4 : IntKind.i64.wrap (xs.length : Int) = (xs.length : Int) := IntWalk.i64_in _ (by omega)
  go_upto_region 32 with fail
  go_cut [179] from 157 to 178 (fun sb wx => sb = .bool q ∧ wx = W8)
  case first =>
    by_cases h1 : x.2.2.2 < (xs.length : Int)
    · have h1' : decide (x.2.2.2 < (xs.length : Int)) = true := decide_eq_true h1
      have HX : Hid (q = true) := by show _ = _; rw [HQ.out, h1', Bool.true_or]
      go_wp2_with fail
      go_meet
      case rel => exact ⟨by rw [HX.out], rfl⟩
    · have h1' : decide (x.2.2.2 < (xs.length : Int)) = false := decide_eq_false h1
      by_cases h2 : x.2.2.1 = 1
      · have h2' : (x.2.2.1 == 1) = true := beq_iff_eq.2 h2
        by_cases h3 : x0 = 0
        · have HX : Hid (q = false) := by show _ = _; rw [HQ.out, h1', decide_eq_true h2, decide_eq_false (by simpa using h3)]; rfl
          have h3' : (x0 != 0) = false := by simpa using h3
          have h3'' : (x0 == 0) = true := by simpa using h3
          go_wp2_with fail
          go_meet
          case rel => exact ⟨by rw [HX.out], rfl⟩
        · have HX : Hid (q = true) := by show _ = _; rw [HQ.out, h1', decide_eq_true h2, decide_eq_true h3]; rfl
          have h3' : (x0 != 0) = true := by simpa using h3
          have h3'' : (x0 == 0) = false := by simpa using h3
          go_wp2_with fail
          go_meet
          case rel => exact ⟨by rw [HX.out], rfl⟩
      · have h2' : (x.2.2.1 == 1) = false := beq_eq_false_iff_ne.2 h2
        have HX : Hid (q = false) := by show _ = _; rw [HQ.out, h1', decide_eq_false h2]; rfl
        go_wp2_with fail
        go_meet
        case rel => exact ⟨by rw [HX.out], rfl⟩
  case rest =>
  obtain ⟨rfl, hwc8⟩ := hcut
  subst hwc8
  generalize wc = W9 at *
  go_step
  go_cut [8] from 157 to 179 (fun s8 wx => s8 = .int .i64 (errB (bad || q)) ∧ wx = W9)
  case first =>
    cases q with
    | true =>
      go_wp2_with fail
      go_meet
      case rel => exact ⟨by simp [errB], rfl⟩
    | false =>
      go_wp2_with fail
      go_meet
      case rel => exact ⟨by simp, rfl⟩
  case rest =>
  obtain ⟨rfl, hwc9⟩ := hcut
  subst hwc9
  generalize wc = W9 at *
  go_upto_region 35 with fail
  go_loopw [8, 16] (fun b8 i16 wy => ∃ c : Nat, c ≤ xs.length ∧ i16 = .int .i64 ((c : Int) + 1) ∧ b8 = .int .i64 (errB (bad || q || (xs.take c).any fun n => decide (999 < n))) ∧ W9 = wy) (fun _ i _ => xs.length + 1 - (intOf i).toNat)
  case atStart => exact ⟨0, Nat.zero_le _, rfl, by simp, rfl⟩
  case round =>
  obtain ⟨c, hc, rfl, rfl, hwy⟩ := hrel
  subst hwy
  by_cases hcl : c < xs.length
  · obtain ⟨z, hz⟩ : ∃ z, xs[c]? = some z := ⟨_, List.getElem?_eq_getElem hcl⟩
    have hcz := HX8.out c z hz
    have hci : (c : Int) + 1 < (xs.length : Int) + 1 := by omega
    have HAN : Hid (((xs.take (c + 1)).any fun n => decide (999 < n)) = (((xs.take c).any fun n => decide (999 < n)) || decide (999 < z))) := by
      show _ = _
      rw [sx_take' hz, List.any_append]
      simp
    obtain ⟨g9, hg9⟩ : ∃ g : Bool, g = (bad || q || (xs.take c).any fun n => decide (999 < n)) := ⟨_, rfl⟩
    have HG9 : Hid (g9 = (bad || q || (xs.take c).any fun n => decide (999 < n))) := hg9
    rw [← hg9]
    clear hz hg9
    by_cases hz9 : 999 < z
    · have hz9' : decide (999 < z) = true := decide_eq_true hz9
      go_wp2_with fail
      go_roundw
      case rel => exact ⟨c + 1, by omega, by go_num, by rw [HAN.out]; rw [hz9', Bool.or_true, Bool.or_true]; rfl, trivial⟩
      case measure => simp [intOf]; omega
    · have hz9' : decide (999 < z) = false := decide_eq_false hz9
      go_wp2_with fail
      go_roundw
      case rel => exact ⟨c + 1, by omega, by go_num, by rw [HAN.out]; rw [hz9', Bool.or_false, ← HG9.out], trivial⟩
      case measure => simp [intOf]; omega
  obtain rfl : c = xs.length := by omega
  have hci : decide ((xs.length : Int) + 1 < (xs.length : Int) + 1) = false := decide_eq_false (by omega)
  have hci2 : decide ((xs.length : Int) < (xs.length : Int)) = false := decide_eq_false (by omega)
  obtain ⟨g9, hg9⟩ : ∃ g : Bool, g = (bad || q || (xs.take xs.length).any fun n => decide (999 < n)) := ⟨_, rfl⟩
  have HG9 : Hid (g9 = (bad || lineBad ⟨x, xs, x0⟩)) := by
    show _ = _
    rw [hg9, List.take_length, Bool.or_assoc, HQ.out]
    rfl
  rw [← hg9]
  clear hg9 hcl hc
  obtain ⟨k2, k3, k4, k5, f4, f5⟩ := HLN8.out.c
  have hth : ∀ nq, (W9.drewN nq).there b 4 2 := fun nq j hj => by
    have hb : Below W9.heap.size W9 (W9.drewN nq) := below_dN (Below.refl _ _) nq
    have hlt : b < W9.heap.size := wlt k4
    rw [hb.cell (p := ⟨b, 4 + j, none⟩) hlt, hb.frozen (p := ⟨b, 4 + j, none⟩) hlt]
    match j, hj with
    | 0, _ => exact ⟨by rw [k4]; rfl, f4⟩
    | 1, _ => exact ⟨by rw [k5]; rfl, f5⟩
  have hcap1 : (1 : Int) ≤ (xs.length : Int) + 1 := by omega
  have hcap2 : (xs.length : Int) + 1 ≤ (nc : Int) := by omega
  have hcap3 : (1 : Int) ≤ (nc : Int) := by omega
  go_upto_region 39 with fail
  refine wp_region_quiet_last (by kernel_rfl) rfl (by decide +kernel) (by decide +kernel) ?_
  simp only [List.dropLast_cons_cons, List.dropLast_singleton]
  repeat (go_big_quiet_step (fail))
  refine wpQuiet_nil ?_
  intro _ hw'
  obtain ⟨nq, hw''⟩ := hw'
  subst hw''
  obtain ⟨so, hso, hso2⟩ : ∃ so : Nat, (if nc = 1 then some (⟨nb, 0, none⟩ : Addr) else some ⟨nb, 1, none⟩) = some ⟨nb, so, none⟩ ∧ (so = 1 ∨ xs = []) := by
    by_cases h1 : nc = 1
    · refine ⟨0, by rw [if_pos h1], Or.inr ?_⟩
      exact List.eq_nil_of_length_eq_zero (by omega)
    · exact ⟨1, by rw [if_neg h1], Or.inl rfl⟩
  rw [hso]
  refine wp_store_mid _ _ _ rfl b 4 #[.slice (some ⟨nb, so, none⟩) xs.length (nc - 1), .int .i64 x0] rfl rfl (hth nq) rfl (by simp [Value.oneCell']) ?_
  have bN : Below W9.heap.size W9 (W9.drewN nq) := below_dN (Below.refl _ _) nq
  have hB : Below WR.heap.size WR (W9.drewN nq) := HW8.out.trans (bN.mono HW8.out.size)
  have hblt : b < W9.heap.size := wlt k4
  have hbnb : b < nb := by
    have h1 := HLN8.out.lt
    have h2 := HRW.out.1.le
    have h3 := HRW.out.2.2.1
    simp only at h2
    omega
  have HRN : Hid (RK (((W9.drewN nq).setCell ⟨b, 4, none⟩ (.slice (some ⟨nb, so, none⟩) xs.length (nc - 1))).setCell ⟨b, 5, none⟩ (.int .i64 x0)) w.heap.size p (.slice ca p.code.length cc) (.slice sa p.spans.length sc) (.slice wa p.wires.length wc') ⟨kk.rooms, kk.lines.set m ⟨x, xs, x0⟩, kk.time⟩ { a with us := us.set m (.slice (some ⟨nb, so, none⟩) xs.length (nc - 1)) }) := by
    have ht0 : RTouch WR (W9.drewN nq) b uu (.slice (some ⟨nb, so, none⟩) xs.length (nc - 1)) := RTouch.of hB (fun k hk => Or.inr (by
      simp only [Value.ownBlock, Option.some.injEq] at hk
      have := HRW.out.2.2.1
      omega))
    have ht := (ht0.set 4 (.slice (some ⟨nb, so, none⟩) xs.length (nc - 1))).set 5 (.int .i64 x0)
    have hc := fun o => bN.cell (p := ⟨b, o, none⟩) hblt
    have hf := fun o => bN.frozen (p := ⟨b, o, none⟩) hblt
    have hnbk : (((W9.drewN nq).setCell ⟨b, 4, none⟩ (.slice (some ⟨nb, so, none⟩) xs.length (nc - 1))).setCell ⟨b, 5, none⟩ (.int .i64 x0)).heap[nb]? = W9.heap[nb]? := (Below.heap_setCell _ _ _ _ (by show nb ≠ b; omega)).trans ((Below.heap_setCell _ _ _ _ (by show nb ≠ b; omega)).trans (bN.block nb hnb8))
    have hsz : (((W9.drewN nq).setCell ⟨b, 4, none⟩ (.slice (some ⟨nb, so, none⟩) xs.length (nc - 1))).setCell ⟨b, 5, none⟩ (.int .i64 x0)).heap.size = (W9.drewN nq).heap.size := by simp
    have hl : Rl (((W9.drewN nq).setCell ⟨b, 4, none⟩ (.slice (some ⟨nb, so, none⟩) xs.length (nc - 1))).setCell ⟨b, 5, none⟩ (.int .i64 x0)) a.b1 b x.2.2.1 x.2.2.2 xs x0 (.slice (some ⟨nb, so, none⟩) xs.length (nc - 1)) := by
      refine ⟨⟨?_, ?_, ?_, ?_, ?_, ?_⟩, ?_, fun q hq => ?_, HLN8.out.lt, ?_⟩
      · rw [setCell_far (by decide), setCell_far (by decide)]; exact (hc 2).trans k2
      · rw [setCell_far (by decide), setCell_far (by decide)]; exact (hc 3).trans k3
      · rw [setCell_far (by decide)]
        simp [go_sem, (hc 4).trans k4]
      · have e5 := (setCell_far (w := W9.drewN nq) (b := b) (i := 5) (j := 4) (v := (.slice (some ⟨nb, so, none⟩) xs.length (nc - 1))) (by decide)).trans ((hc 5).trans k5)
        simp [go_sem, e5]
      · simpa using (hf 4).trans f4
      · simpa using (hf 5).trans f5
      · rcases hso2 with e1 | e1
        · refine Or.inr ⟨nb, 1, nc - 1, by rw [e1], by omega, by omega, by rw [hsz]; exact Nat.lt_of_lt_of_le hnb8 bN.size, fun j z hj => ?_⟩
          rw [Nat.add_comm]
          exact (World.cell?_of_block (a := ⟨nb, j + 1, none⟩) hnbk).trans (HX8.out j z hj)
        · exact Or.inl ⟨e1, _, _, by rw [e1]; rfl⟩
      · simp only [Value.ownBlock, Option.some.injEq] at hq
        subst hq
        refine ⟨?_, by rw [hsz]; exact Nat.lt_of_lt_of_le hnb8 bN.size⟩
        have h2 := HRW.out.1.le
        have h3 := HRW.out.2.2.1
        simp only at h2
        omega
      · rw [hsz]
        exact Nat.le_trans HLN8.out.le bN.size
    exact HRW.out.1.line_set (l' := ⟨x, xs, x0⟩) HBU.out.1 HBU.out.2 ht hl
  have hbm : b ∈ a.m := by
    unfold KW.m
    exact List.mem_cons_of_mem _ (List.mem_cons_of_mem _ (List.mem_of_getElem? HBU.out.1))
  have HTN : Hid (KTouch a.m w3 (((W9.drewN nq).setCell ⟨b, 4, none⟩ (.slice (some ⟨nb, so, none⟩) xs.length (nc - 1))).setCell ⟨b, 5, none⟩ (.int .i64 x0))) := ((HRW.out.2.2.2.trans (KTouch.of hB)).trans (KTouch.set _ hbm 4 _)).trans (KTouch.set _ hbm 5 _)
  clear bN hB hth k2 k3 k4 k5 f4 f5
  go_wp2_with fail
  go_roundw
  case rel => exact ⟨n + 1, _, _, _, by omega, by go_num, by rw [HG9.out], HLX.out, HRN.out, HTN.out⟩
  case measure => simp [intOf]; omega
end Go.Proofs.YtfconbblnmbnpahGreatDoor
