/-
  takeOp: a line of code taken into a draft.
-/
import Derived.Test.YtamnfadngbbaeacGreatDoorPlLay
import Derived.Test.YtamnfadngbbaeacGreatDoorReadA
import Derived.BigQuiet
namespace Go.Proofs.YtamnfadngbbaeacGreatDoor
open Go.RowKit

/-- What a line's reading leaves: it may not stand there, or it is laid. -/
def Took (base pb : Nat) (d : PD) (k : Nat) (a : Option Act) (w : World) (e : Ending) (w' : World) : Prop := match a with
  | none => e = .returned (.bool false) ∧ Step base pb d k w w'
  | some a => e = .returned (.bool true) ∧ Step base pb (layT d a) a.kind w w'
theorem step_below {base pb : Nat} {d : PD} {k : Nat} {vc vs vw : Value} {us : List Value} {w w' : World} (h : Dr w base pb d k vc vs vw us) (hb : Below w.heap.size w w') : Step base pb d k w w' := ⟨⟨_, _, _, _, h.below hb⟩, Tk.of_below hb h.rp.le h.rp.lt⟩
set_option maxRecDepth 100000 in
set_option maxHeartbeats 4000000 in
theorem takeop_bad (base pb : Nat) (d : PD) (k : Nat) (vc vs vw : Value) (us : List Value) (s : ByteArray) (w : World) (h : Dr w base pb d k vc vs vw us) (ht : Tabs2 w) (hl : s.size ≤ 1099511627776) (ho : opRead s.data.toList = none) :
    Calls Tryz.prog 57 #[.pointer (some ⟨pb, 0, none⟩), .string s] w fun e w' => e = .returned (.bool false) ∧ Step base pb d k w w' := by
  have hrd := readop_any s w ht hl
  rw [ho] at hrd
  unfold opRes at hrd
  simp only at hrd
  have H : Hid (Dr w base pb d k vc vs vw us) := h
  clear h ht ho
  go_enter Tryz.func57, Tryz.ntmps57
  go_wp2_with (go_at_call 84; refine hrd.mono ?_; rintro e w1 ⟨rfl, b1⟩; clear hrd)
  go_ret
  exact ⟨rfl, step_below H.out (b1.alloc b1.size _)⟩
set_option maxRecDepth 100000 in
set_option maxHeartbeats 4000000 in
theorem takeop_no (base pb : Nat) (d : PD) (k : Nat) (vc vs vw : Value) (us : List Value) (s : ByteArray) (o : O3) (w : World) (h : Dr w base pb d k vc vs vw us) (ht : Tabs2 w) (hl : s.size ≤ 1099511627776) (ho : opRead s.data.toList = some o) (hk : k ≠ 4) :
    Calls Tryz.prog 57 #[.pointer (some ⟨pb, 0, none⟩), .string s] w fun e w' => e = .returned (.bool false) ∧ Step base pb d k w w' := by
  have hrd := readop_any s w ht hl
  rw [ho] at hrd
  unfold opRes at hrd
  simp only at hrd
  have H : Hid (Dr w base pb d k vc vs vw us) := h
  have hki : ((k : Int) == 4) = false := by simp; omega
  have hpb : pb < w.heap.size := Nat.lt_of_lt_of_le h.rp.lt h.rp.le
  clear h ht ho hk
  go_enter Tryz.func57, Tryz.ntmps57
  go_wp2_with (go_at_call 84; refine hrd.mono ?_; rintro e w1 ⟨rfl, b1⟩; clear hrd; have D1 := H.out.below b1; have c4 := D1.c4; have hpb1 : pb < w1.heap.size := Nat.lt_of_lt_of_le hpb b1.size)
  go_ret
  exact ⟨rfl, step_below H.out (b1.alloc b1.size _)⟩
set_option maxRecDepth 100000 in
set_option maxHeartbeats 8000000 in
theorem takeop_yes (base pb : Nat) (d : PD) (vc vs vw : Value) (us : List Value) (s : ByteArray) (o : O3) (w : World) (h : Dr w base pb d 4 vc vs vw us) (hk : Kept 4 d) (ht : Tabs2 w) (hl : s.size ≤ 1099511627776) (ho : opRead s.data.toList = some o) :
    Calls Tryz.prog 57 #[.pointer (some ⟨pb, 0, none⟩), .string s] w fun e w' => e = .returned (.bool true) ∧ Step base pb (layT d (.op o)) 4 w w' := by
  have hrd := readop_any s w ht hl
  rw [ho] at hrd
  unfold opRes at hrd
  simp only at hrd
  clear ht ho hl
  have hne := hk.room rfl
  obtain ⟨L, hL⟩ : ∃ L, L + 1 = d.code.length := ⟨d.code.length - 1, by have : d.code.length ≠ 0 := fun e => hne (List.eq_nil_of_length_eq_zero e); omega⟩
  have hul := h.rp.ulen
  obtain ⟨g, cap, hvc⟩ : ∃ g cap, vc = .slice (some ⟨g, 0, none⟩) d.code.length cap := by
    rcases h.rp.code.2 with ⟨_, h0⟩ | ⟨g, cap, cur, h1, _⟩
    · omega
    · exact ⟨g, cap, h1⟩
  subst hvc
  have hu : us[L]? = some us[L] := List.getElem?_eq_getElem (by omega)
  have hc : d.code[L]? = some d.code[L] := List.getElem?_eq_getElem (by omega)
  obtain ⟨u, hue⟩ : ∃ u, u = us[L] := ⟨_, rfl⟩
  obtain ⟨c, hce⟩ : ∃ c, c = d.code[L] := ⟨_, rfl⟩
  rw [← hue] at hu
  rw [← hce] at hc
  have hcl : c.length ≤ 21 := hk.ops c (List.mem_of_getElem? hc)
  have hlast : d.code.getLast? = some c := by
    rw [List.getLast?_eq_getElem?, show d.code.length - 1 = L by omega]
    exact hc
  clear hue hce
  obtain ⟨ua, uc, rfl⟩ := own_sl (h.rp.rows L u c hu hc)
  have hpb : pb < w.heap.size := Nat.lt_of_lt_of_le h.rp.lt h.rp.le
  have hgl := h.rp.code.lt g rfl
  have H : Hid (Dr w base pb d 4 (.slice (some ⟨g, 0, none⟩) d.code.length cap) vs vw us) := h
  have HU : Hid (us[L]? = some (.slice ua c.length uc)) := hu
  have HC : Hid (d.code[L]? = some c) := hc
  have HL : Hid (L + 1 = d.code.length) := hL
  have HG : Hid (base ≤ g) := hgl.1
  have hcell : ∀ W : World, Dr W base pb d 4 (.slice (some ⟨g, 0, none⟩) d.code.length cap) vs vw us → W.cell? ⟨g, L, none⟩ = some (.slice ua c.length uc) ∧ W.frozen? ⟨g, L, none⟩ = false := fun W D => ⟨by
      have := D.rp.code.cellAt L (by omega)
      rw [this]
      exact hu, D.rp.code.frozenAt L⟩
  have HCELL : Hid (∀ W : World, Dr W base pb d 4 (.slice (some ⟨g, 0, none⟩) d.code.length cap) vs vw us → W.cell? ⟨g, L, none⟩ = some (.slice ua c.length uc) ∧ W.frozen? ⟨g, L, none⟩ = false) := hcell
  have hsub : IntKind.i64.wrap ((d.code.length : Int) - 1) = (L : Int) := by
    rw [← hL]
    have : ((L + 1 : Nat) : Int) - 1 = (L : Int) := by omega
    rw [this]
    have := hk.code
    have hm : (L : Int) % 18446744073709551616 = L := Int.emod_eq_of_lt (by omega) (by omega)
    have hd : decide ((9223372036854775808 : Int) ≤ (L : Int)) = false := decide_eq_false (by omega)
    simp [IntKind.wrap, IntKind.bits, IntKind.signed, hm, hd]
  have hgw : g < w.heap.size := hgl.2
  have hLi : (L : Int) < (d.code.length : Int) := by omega
  have hq : ∀ W : World, Dr W base pb d 4 (.slice (some ⟨g, 0, none⟩) d.code.length cap) vs vw us → Calls Tryz.prog 85 #[.slice ua c.length uc, .agg #[.int .i64 o.1, .int .i64 o.2.1, .int .i64 o.2.2], .int .i64 20] W (KeptP base 73 3 (.slice ua c.length uc) c.length (cells3 c) [.int .i64 o.1, .int .i64 o.2.1, .int .i64 o.2.2] 20 W) := fun W D => kept_op base _ c.length (cells3 c) o.1 o.2.1 o.2.2 W (D.rp.rows L _ c HU.out HC.out) D.rp.le (by omega)
  have HQ : Hid (∀ W : World, Dr W base pb d 4 (.slice (some ⟨g, 0, none⟩) d.code.length cap) vs vw us → Calls Tryz.prog 85 #[.slice ua c.length uc, .agg #[.int .i64 o.1, .int .i64 o.2.1, .int .i64 o.2.2], .int .i64 20] W (KeptP base 73 3 (.slice ua c.length uc) c.length (cells3 c) [.int .i64 o.1, .int .i64 o.2.1, .int .i64 o.2.2] 20 W)) := hq
  clear h hk hu hc hL hgl hcell hq hul hne
  go_enter Tryz.func57, Tryz.ntmps57
  go_wp2_with (go_at_call 84; refine hrd.mono ?_; rintro e w1 ⟨rfl, b1⟩; clear hrd; have D1 := H.out.below b1; have c4 := D1.c4; have c0 := D1.rp.c0; have hpb1 : pb < w1.heap.size := Nat.lt_of_lt_of_le hpb b1.size)
  go_quiet (fail)
  go_wp2
  have bA : Below w1.heap.size w1 ((w1.alloc (.cells #[.int .i64 o.1, .int .i64 o.2.1, .int .i64 o.2.2] 73)).drewN nq) := below_dN ((Below.refl _ w1).alloc (Nat.le_refl _) _) nq
  have D2 := D1.below bA
  have hA : ((w1.alloc (.cells #[.int .i64 o.1, .int .i64 o.2.1, .int .i64 o.2.2] 73)).drewN nq).heap.size = w1.heap.size + 1 := by simp
  have hA0 : ((w1.alloc (.cells #[.int .i64 o.1, .int .i64 o.2.1, .int .i64 o.2.2] 73)).drewN nq).cell? ⟨w1.heap.size, 0, none⟩ = some (.int .i64 o.1) := by simp
  have hA1 : ((w1.alloc (.cells #[.int .i64 o.1, .int .i64 o.2.1, .int .i64 o.2.2] 73)).drewN nq).cell? ⟨w1.heap.size, 1, none⟩ = some (.int .i64 o.2.1) := by simp
  have hA2 : ((w1.alloc (.cells #[.int .i64 o.1, .int .i64 o.2.1, .int .i64 o.2.2] 73)).drewN nq).cell? ⟨w1.heap.size, 2, none⟩ = some (.int .i64 o.2.2) := by simp
  generalize (w1.alloc (.cells #[.int .i64 o.1, .int .i64 o.2.1, .int .i64 o.2.2] 73)).drewN nq = W2 at bA D2 hA hA0 hA1 hA2 ⊢
  clear c4 c0 hsub
  have D3 := D2.drew
  have hgl2 := (HCELL.out _ D3).1
  have q3 := HQ.out _ D3
  have hlt2 : w1.heap.size < W2.heap.size := by omega
  have tk0 : Tk base pb w W2 := (Tk.of_below b1 H.out.rp.le H.out.rp.lt).trans (Tk.of_below bA D1.rp.le D1.rp.lt)
  have TK0 : Hid (Tk base pb w W2.drew) := tk0.trans (Tk.of_below (Below.refl _ _).drew D2.rp.le D2.rp.lt)
  clear tk0 hA
  by_cases hm : 20 < c.length
  · have q4 := q3.mono (fun e w' hx => keptFull hx hm)
    have HX : Hid (layT d (.op o) = d) := by
      show _ = _
      have : ontoT d.code o = d.code := by
        unfold ontoT
        rw [hlast]
        simp only
        rw [if_pos hm]
      simp only [layT]
      rw [this]
    clear q3 hm hlast
    refine wp_region_popped (fun W => W.cell? ⟨g, L, none⟩ = some (.slice ua c.length uc) ∧ W.cell? ⟨w1.heap.size, 0, none⟩ = some (.int .i64 o.1) ∧ W.cell? ⟨w1.heap.size, 1, none⟩ = some (.int .i64 o.2.1) ∧ W.cell? ⟨w1.heap.size, 2, none⟩ = some (.int .i64 o.2.2)) (by kernel_rfl) rfl (by decide +kernel) ⟨hgl2, hA0, hA1, hA2⟩ (fun hHeld => ?_)
    simp only [List.pop_toArray, List.dropLast_cons_cons, List.dropLast_singleton, List.size_toArray, List.length_cons, List.length_nil, Nat.reduceAdd, Array.replicate_succ, Array.replicate_zero, List.push_toArray, List.nil_append, List.cons_append]
    refine wpAnyH_take (i := 0) (v := ?_) rfl (by decide +kernel) (by decide +kernel) (by decide +kernel) (fun _ _ _ h => h) (Or.inl ⟨by rfl, ?_⟩) (by assumption) ?_
    rotate_left
    · intro W hSw
      try dsimp only at hSw
      go_simp
      try with_reducible rfl
    simp only [Act.put, List.setIfInBounds_toArray, List.set_cons_zero]
    refine wpAnyH_take (i := 1) (v := ?_) rfl (by decide +kernel) (by decide +kernel) (by decide +kernel) (fun _ _ _ h => h) (Or.inl ⟨by rfl, ?_⟩) (by assumption) ?_
    rotate_left
    · intro W hSw
      try dsimp only at hSw
      go_simp
      try with_reducible rfl
    simp only [Act.put, List.setIfInBounds_toArray, List.set_cons_zero, List.set_cons_succ]
    refine wpAnyH_take (i := 2) (v := ?_) rfl (by decide +kernel) (by decide +kernel) (by decide +kernel) (fun _ _ _ h => h) (Or.inl ⟨by rfl, ?_⟩) (by assumption) ?_
    rotate_left
    · intro W hSw
      try dsimp only at hSw
      go_simp
      try with_reducible rfl
    simp only [Act.put, List.setIfInBounds_toArray, List.set_cons_zero, List.set_cons_succ]
    refine wpAnyH_take (i := 3) (v := ?_) rfl (by decide +kernel) (by decide +kernel) (by decide +kernel) (fun _ _ _ h => h) (Or.inl ⟨by rfl, ?_⟩) (by assumption) ?_
    rotate_left
    · intro W hSw
      try dsimp only at hSw
      go_simp
      try with_reducible rfl
    simp only [Act.put, List.setIfInBounds_toArray, List.set_cons_zero, List.set_cons_succ]
    refine wpAnyH_take (i := 4) (v := ?_) rfl (by decide +kernel) (by decide +kernel) (by decide +kernel) (fun _ _ _ h => h) (Or.inl ⟨by rfl, ?_⟩) (by assumption) ?_
    rotate_left
    · intro W hSw
      try dsimp only at hSw
      go_simp
      try with_reducible rfl
    simp only [Act.put, List.setIfInBounds_toArray, List.set_cons_zero, List.set_cons_succ]
    refine wpAnyH_ready (rs := [5]) (by decide +kernel) (by simp) ?_
    refine AllReadyH.cons (o := _) rfl (fun K hK => ?_) AllReadyH.nil
    go_simp
    (go_at_call 85; refine q4.mono ?_; rintro e w3 ⟨rfl, b3⟩; have D4 := D3.below b3; obtain ⟨e2, f2⟩ := HCELL.out _ D4; have hcl3 := fun o => b3.cell (p := ⟨w1.heap.size, o, none⟩) hlt2)
    go_wp2_with fail
    refine hK.out _ _ ⟨e2, (hcl3 _).trans hA0, (hcl3 _).trans hA1, (hcl3 _).trans hA2⟩ (fun hHeld => ?_)
    clear hK K
    simp only [List.setIfInBounds_toArray, List.set_cons_zero, List.set_cons_succ]
    refine wpAnyH_take (i := 6) (v := ?_) rfl (by decide +kernel) (by decide +kernel) (by decide +kernel) (fun _ _ _ h => h) (Or.inl ⟨by rfl, ?_⟩) (by assumption) ?_
    rotate_left
    · intro W hSw
      try dsimp only at hSw
      go_simp
      try with_reducible rfl
    simp only [Act.put, List.setIfInBounds_toArray, List.set_cons_zero, List.set_cons_succ]
    refine wpAnyH_done (by decide +kernel) ?_ _
    show Oper.wp _ _ _ _ _ _
    go_simp
    go_wp2
    go_ret
    rw [HX.out]
    refine ⟨rfl, ⟨_, _, _, _, by rw [setCell_id e2]; exact D4⟩, ?_⟩
    rw [setCell_id e2]
    exact TK0.out.trans (Tk.of_below b3 D3.rp.le D3.rp.lt)
  · have q4 := q3.mono (fun e w' hx => keptMore hx hm)
    have HX : Hid (layT d (.op o) = ⟨d.code.set L (c ++ [o]), d.ticks, d.spans, d.wires⟩) := by
      show _ = _
      have : ontoT d.code o = d.code.set L (c ++ [o]) := by
        unfold ontoT
        rw [hlast]
        simp only
        rw [if_neg hm]
        unfold ontoD
        rw [onto_set HL.out HC.out]
        rfl
      simp only [layT]
      rw [this]
    clear q3 hm hlast
    refine wp_region_popped (fun W => W.cell? ⟨g, L, none⟩ = some (.slice ua c.length uc) ∧ W.cell? ⟨w1.heap.size, 0, none⟩ = some (.int .i64 o.1) ∧ W.cell? ⟨w1.heap.size, 1, none⟩ = some (.int .i64 o.2.1) ∧ W.cell? ⟨w1.heap.size, 2, none⟩ = some (.int .i64 o.2.2)) (by kernel_rfl) rfl (by decide +kernel) ⟨hgl2, hA0, hA1, hA2⟩ (fun hHeld => ?_)
    simp only [List.pop_toArray, List.dropLast_cons_cons, List.dropLast_singleton, List.size_toArray, List.length_cons, List.length_nil, Nat.reduceAdd, Array.replicate_succ, Array.replicate_zero, List.push_toArray, List.nil_append, List.cons_append]
    refine wpAnyH_take (i := 0) (v := ?_) rfl (by decide +kernel) (by decide +kernel) (by decide +kernel) (fun _ _ _ h => h) (Or.inl ⟨by rfl, ?_⟩) (by assumption) ?_
    rotate_left
    · intro W hSw
      try dsimp only at hSw
      go_simp
      try with_reducible rfl
    simp only [Act.put, List.setIfInBounds_toArray, List.set_cons_zero]
    refine wpAnyH_take (i := 1) (v := ?_) rfl (by decide +kernel) (by decide +kernel) (by decide +kernel) (fun _ _ _ h => h) (Or.inl ⟨by rfl, ?_⟩) (by assumption) ?_
    rotate_left
    · intro W hSw
      try dsimp only at hSw
      go_simp
      try with_reducible rfl
    simp only [Act.put, List.setIfInBounds_toArray, List.set_cons_zero, List.set_cons_succ]
    refine wpAnyH_take (i := 2) (v := ?_) rfl (by decide +kernel) (by decide +kernel) (by decide +kernel) (fun _ _ _ h => h) (Or.inl ⟨by rfl, ?_⟩) (by assumption) ?_
    rotate_left
    · intro W hSw
      try dsimp only at hSw
      go_simp
      try with_reducible rfl
    simp only [Act.put, List.setIfInBounds_toArray, List.set_cons_zero, List.set_cons_succ]
    refine wpAnyH_take (i := 3) (v := ?_) rfl (by decide +kernel) (by decide +kernel) (by decide +kernel) (fun _ _ _ h => h) (Or.inl ⟨by rfl, ?_⟩) (by assumption) ?_
    rotate_left
    · intro W hSw
      try dsimp only at hSw
      go_simp
      try with_reducible rfl
    simp only [Act.put, List.setIfInBounds_toArray, List.set_cons_zero, List.set_cons_succ]
    refine wpAnyH_take (i := 4) (v := ?_) rfl (by decide +kernel) (by decide +kernel) (by decide +kernel) (fun _ _ _ h => h) (Or.inl ⟨by rfl, ?_⟩) (by assumption) ?_
    rotate_left
    · intro W hSw
      try dsimp only at hSw
      go_simp
      try with_reducible rfl
    simp only [Act.put, List.setIfInBounds_toArray, List.set_cons_zero, List.set_cons_succ]
    refine wpAnyH_ready (rs := [5]) (by decide +kernel) (by simp) ?_
    refine AllReadyH.cons (o := _) rfl (fun K hK => ?_) AllReadyH.nil
    go_simp
    (go_at_call 85; refine q4.mono ?_; rintro e w3 ⟨v1, wm, rfl, bm, gm, own1, hat⟩; have Dm := D3.below bm; have hrm := Dm.rp.rows L _ c HU.out HC.out; have k2 := Dm.rp.code.kept gm (own_apart (by decide) Dm.rp.code hrm); have e2 := (k2.cellAt L (by have := HL.out; omega)).trans HU.out; have f2 := k2.frozenAt L; obtain ⟨vb, vk, rfl⟩ := own_sl own1; have hcl3 := cells_kept bm gm (fun e => by have := ((D1.rp.rows L _ c HU.out HC.out).lt _ e).2; omega) hlt2)
    go_wp2_with fail
    refine hK.out _ _ ⟨e2, (hcl3 _).trans hA0, (hcl3 _).trans hA1, (hcl3 _).trans hA2⟩ (fun hHeld => ?_)
    clear hK K
    simp only [List.setIfInBounds_toArray, List.set_cons_zero, List.set_cons_succ]
    refine wpAnyH_take (i := 6) (v := ?_) rfl (by decide +kernel) (by decide +kernel) (by decide +kernel) (fun _ _ _ h => h) (Or.inl ⟨by rfl, ?_⟩) (by assumption) ?_
    rotate_left
    · intro W hSw
      try dsimp only at hSw
      go_simp
      try with_reducible rfl
    simp only [Act.put, List.setIfInBounds_toArray, List.set_cons_zero, List.set_cons_succ]
    refine wpAnyH_done (by decide +kernel) ?_ _
    show Oper.wp _ _ _ _ _ _
    go_simp
    go_wp2
    go_ret
    rw [HX.out]
    exact ⟨rfl, ⟨_, _, _, _, Dm.op HL.out HU.out HC.out gm own1 hat⟩, ((TK0.out.trans (Tk.of_below bm D3.rp.le D3.rp.lt)).trans (Tk.grown hrm gm Dm.rp.le Dm.rp.lt)).trans (Tk.setRow _ HG.out Dm.rp.lt _ _)⟩
end Go.Proofs.YtamnfadngbbaeacGreatDoor
