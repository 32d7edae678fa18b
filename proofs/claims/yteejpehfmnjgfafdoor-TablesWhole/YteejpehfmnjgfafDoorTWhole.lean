/-
  The law TablesWhole: the walk, under what packages tables and kernel do.
-/
import Derived.Test.YteejpehfmnjgfafDoorJb2
import Derived.Test.YteejpehfmnjgfafDoorJb1
import Derived.Deep.CutRange
import Derived.Deep.RegionWith
import Derived.BigQuiet
import Derived.RangeFuncNested
namespace Go.Proofs.YteejpehfmnjgfafDoor
open Go.RowKit

/-- The law's own: a room that rests, a frame of two ticks, and two lists. -/
def toyT : PD := ⟨[[(10, 0, 0)]], 2, [], []⟩
def toyL : List (List S3) := [[], [(0, 2, 0)]]
def toyT0 : TbD := newT toyT
def toyT1 : TbD := tickT toyT toyL toyT0
def toyT2 : TbD := askT toyL toyT1 1
def toyT3 : TbD := tickT toyT toyL toyT2
def toyT4 : TbD := tickT toyT toyL toyT3
theorem toyT_e : tabE toyT toyL = 0 := by decide +kernel
theorem toyT_ev0 : evT toyT toyL toyT0 = (0, -1, 0, 0) := by decide +kernel
theorem toyT_ask : askE toyL 1 = 0 := by decide +kernel
theorem toyT_ev2 : evT toyT toyL toyT2 = (1, -1, 0, 0) := by decide +kernel
theorem toyT_ev3 : evT toyT toyL toyT3 = (2, 0, 0, 0) := by decide +kernel
theorem toyT_now : countT toyT toyT4 = 1 := by decide +kernel
theorem toyT_ok0 : TOk toyT toyL toyT0 := newT_ok toyT_e
theorem toyT_ok1 : TOk toyT toyL toyT1 := tickT_ok toyT_e toyT_ok0
theorem toyT_ok2 : TOk toyT toyL toyT2 := askT_ok toyT_ok1 1
theorem toyT_ok3 : TOk toyT toyL toyT3 := tickT_ok toyT_e toyT_ok2
theorem toyT_ok4 : TOk toyT toyL toyT4 := tickT_ok toyT_e toyT_ok3
theorem toyT_t0 : toyT0.k.time < 100000000 := by decide +kernel
theorem toyT_t2 : toyT2.k.time < 100000000 := by decide +kernel
theorem toyT_t3 : toyT3.k.time < 100000000 := by decide +kernel
/-- The law's own plan and lists, as they lie. -/
theorem toyT_pln (W : World) (n : Nat) (hn : n = W.heap.size) : Pln ((W.alloc (.cells #[.int .i64 10, .int .i64 0, .int .i64 0] 57)).alloc (.cells #[.slice (some ⟨n, 0, none⟩) 1 1] 36)) (.slice (some ⟨n + 1, 0, none⟩) 1 1) (.slice none 0 0) (.slice none 0 0) toyT := by
  subst hn
  refine ⟨Or.inr ⟨_, 0, 1, rfl, Nat.le_refl _, by simp, fun i c hi => ?_⟩, Or.inl ⟨rfl, _, _, rfl⟩, Or.inl ⟨rfl, _, _, rfl⟩⟩
  match i, hi with
  | 0, hi =>
    simp [toyT] at hi
    subst hi
    refine ⟨.slice (some ⟨W.heap.size, 0, none⟩) 1 1, by simp [go_sem], Or.inr ⟨W.heap.size, 0, 1, rfl, by simp; omega, fun j o ho => ?_⟩⟩
    match j, ho with
    | 0, ho => simp at ho; subst ho; simp [go_sem]
    | j + 1, ho => simp at ho
  | i + 1, hi => simp [toyT] at hi
theorem toyT_spl (W : World) (n : Nat) (hn : n = W.heap.size) : Spl ((W.alloc (.cells #[.int .i64 0, .int .i64 2, .int .i64 0] 59)).alloc (.cells #[.slice none 0 0, .slice (some ⟨n, 0, none⟩) 1 1] 23)) (.slice (some ⟨n + 1, 0, none⟩) 2 2) toyL := by
  subst hn
  refine Or.inr ⟨W.heap.size + 1, 0, 2, rfl, Nat.le_refl _, by simp, fun i l hi => ?_⟩
  match i, hi with
  | 0, hi =>
    simp [toyL] at hi
    subst hi
    exact ⟨.slice none 0 0, by simp [go_sem], Or.inl ⟨rfl, _, _, rfl⟩⟩
  | 1, hi =>
    simp [toyL] at hi
    subst hi
    refine ⟨.slice (some ⟨W.heap.size, 0, none⟩) 1 1, by simp [go_sem], Or.inr ⟨W.heap.size, 0, 1, rfl, Nat.le_refl _, by simp; omega, fun j o ho => ?_⟩⟩
    match j, ho with
    | 0, ho => simp at ho; subst ho; simp [go_sem]
    | j + 1, ho => simp at ho
  | i + 2, hi => simp [toyL] at hi
theorem list_zero {p : PD} {ls : List (List S3)} {d : TbD} {l0 : List S3} (h0 : d.now = 0) (h1 : d.next = 0) (hl : ls[0]? = some l0) : evT p ls d = (tickK (withS p l0) (withS p l0).spans d.k).2 ∧ (tickT p ls d).k = (tickK (withS p l0) (withS p l0).spans d.k).1 ∧ (tickT p ls d).now = 0 ∧ (tickT p ls d).next = 0 := by
  have hc : countT p d = 0 := by
    unfold countT
    rw [h0, h1, ite_self]
  have hs : spanT p ls d = l0 := by
    unfold spanT
    rw [hc]
    simp [List.getD, hl]
  refine ⟨by unfold evT; rw [hs]; rfl, by unfold tickT; rw [hs]; rfl, by unfold tickT; exact hc, h1⟩
set_option maxRecDepth 1000000 in
set_option maxHeartbeats 16000000 in
theorem twhole_of {G : World → Prop} (C : TabC G) (D : KerC G) (p : PD) (vc vs vw lv sv : Value) (ls : List (List S3)) (xs : List Int) (w : World) (hG : G w) (hP : Pln w vc vs vw p) (hL : Spl w lv ls) (hS : Stp w sv xs) :
    Calls Tryd.prog 6 #[plV vc p.ticks vs vw, lv, sv] w fun e w' => e = .returned (.bool true) ∧ Below w.heap.size w w' := by
  obtain ⟨ca, cc, rfl⟩ := hP.code.form
  obtain ⟨sa, sc, rfl⟩ := hP.spans.form
  obtain ⟨wa, wc', rfl⟩ := hP.wires.form
  obtain ⟨la, lc, rfl⟩ := hL.form
  obtain ⟨xa, xc, rfl⟩ := hS.form
  have hx0 := Bx.first w (.slice ca p.code.length cc) p.ticks (.slice sa p.spans.length sc) (.slice wa p.wires.length wc')
  generalize hW0 : w.alloc (.cells #[.slice ca p.code.length cc, .int .i64 p.ticks, .slice sa p.spans.length sc, .slice wa p.wires.length wc'] 26) = W0 at hx0
  have HG : Hid (∀ W, Below w.heap.size w W → G W) := fun W hb => C.all w W hG hb
  have HP : Hid (Pln w (.slice ca p.code.length cc) (.slice sa p.spans.length sc) (.slice wa p.wires.length wc') p) := hP
  have HL : Hid (Spl w (.slice la ls.length lc) ls) := hL
  have HS : Hid (Stp w (.slice xa xs.length xc) xs) := hS
  have hA : Below W0.heap.size W0 ((((W0.alloc (.cells #[.int .i64 10, .int .i64 0, .int .i64 0] 57)).alloc (.cells #[.slice (some ⟨W0.heap.size, 0, none⟩) 1 1] 36)).alloc (.cells #[.int .i64 0, .int .i64 2, .int .i64 0] 59)).alloc (.cells #[.slice none 0 0, .slice (some ⟨W0.heap.size + 2, 0, none⟩) 1 1] 23)) := ((((Below.refl _ _).alloc (Nat.le_refl _) _).alloc (by simp) _).alloc (by simp; omega) _).alloc (by simp; omega) _
  have q0 : Calls Tryd.prog 22 #[.agg #[.slice (some ⟨W0.heap.size + 1, 0, none⟩) 1 1, .int .i64 2, .slice none 0 0, .slice none 0 0], .slice (some ⟨W0.heap.size + 3, 0, none⟩) 2 2] ((((W0.alloc (.cells #[.int .i64 10, .int .i64 0, .int .i64 0] 57)).alloc (.cells #[.slice (some ⟨W0.heap.size, 0, none⟩) 1 1] 36)).alloc (.cells #[.int .i64 0, .int .i64 2, .int .i64 0] 59)).alloc (.cells #[.slice none 0 0, .slice (some ⟨W0.heap.size + 2, 0, none⟩) 1 1] 23)) fun e w' => ∃ cb F, e = .returned (.tuple #[.pointer (some ⟨cb, 0, none⟩), .nilIface]) ∧ C.K ((((W0.alloc (.cells #[.int .i64 10, .int .i64 0, .int .i64 0] 57)).alloc (.cells #[.slice (some ⟨W0.heap.size, 0, none⟩) 1 1] 36)).alloc (.cells #[.int .i64 0, .int .i64 2, .int .i64 0] 59)).alloc (.cells #[.slice none 0 0, .slice (some ⟨W0.heap.size + 2, 0, none⟩) 1 1] 23)) w' toyT toyL toyT0 cb F := by
    have hp2 := toyT_pln W0 W0.heap.size rfl
    have hl2 := toyT_spl ((W0.alloc (.cells #[.int .i64 10, .int .i64 0, .int .i64 0] 57)).alloc (.cells #[.slice (some ⟨W0.heap.size, 0, none⟩) 1 1] 36)) (W0.heap.size + 2) (by simp)
    have hb2 : Below ((W0.alloc (.cells #[.int .i64 10, .int .i64 0, .int .i64 0] 57)).alloc (.cells #[.slice (some ⟨W0.heap.size, 0, none⟩) 1 1] 36)).heap.size ((W0.alloc (.cells #[.int .i64 10, .int .i64 0, .int .i64 0] 57)).alloc (.cells #[.slice (some ⟨W0.heap.size, 0, none⟩) 1 1] 36)) ((((W0.alloc (.cells #[.int .i64 10, .int .i64 0, .int .i64 0] 57)).alloc (.cells #[.slice (some ⟨W0.heap.size, 0, none⟩) 1 1] 36)).alloc (.cells #[.int .i64 0, .int .i64 2, .int .i64 0] 59)).alloc (.cells #[.slice none 0 0, .slice (some ⟨W0.heap.size + 2, 0, none⟩) 1 1] 23)) := ((Below.refl _ _).alloc (Nat.le_refl _) _).alloc (by simp) _
    exact C.new toyT _ _ _ _ toyL _ (HG.out _ (hx0.step hA).below) (hp2.all hb2) hl2 toyT_e
  have HGA : Hid (G ((((W0.alloc (.cells #[.int .i64 10, .int .i64 0, .int .i64 0] 57)).alloc (.cells #[.slice (some ⟨W0.heap.size, 0, none⟩) 1 1] 36)).alloc (.cells #[.int .i64 0, .int .i64 2, .int .i64 0] 59)).alloc (.cells #[.slice none 0 0, .slice (some ⟨W0.heap.size + 2, 0, none⟩) 1 1] 23))) := HG.out _ (hx0.step hA).below
  have hxA := hx0.step hA
  clear hA
  unfold plV
  go_enter Tryd.func6, Tryd.ntmps6
  go_upto_region 1 with fail
  clear hW0
  go_upto_region 5 with (go_at_call 22; refine q0.mono ?_; rintro e w1 ⟨cb0, F0, rfl, hT0⟩; clear q0)
  generalize ((((W0.alloc (.cells #[.int .i64 10, .int .i64 0, .int .i64 0] 57)).alloc (.cells #[.slice (some ⟨W0.heap.size, 0, none⟩) 1 1] 36)).alloc (.cells #[.int .i64 0, .int .i64 2, .int .i64 0] 59)).alloc (.cells #[.slice none 0 0, .slice (some ⟨W0.heap.size + 2, 0, none⟩) 1 1] 23)) = wT at *
  have HQ0 : Hid (∀ W F, C.K wT W toyT toyL toyT0 cb0 F → Calls Tryd.prog 23 #[.pointer (some ⟨cb0, 0, none⟩)] W fun e w2 => e = .returned (.agg #[.int .i64 0, .int .i64 (-1), .int .i64 0, .int .i64 0]) ∧ ∃ F1, C.K wT w2 toyT toyL toyT1 cb0 F1 ∧ ∀ b, b < W.heap.size → b ∉ F → w2.heap[b]? = W.heap[b]? ∧ b ∉ F1) := fun W F h => (C.tick HGA.out h toyT_e toyT_ok0 toyT_t0).mono (by
    rintro e w2 ⟨rfl, F1, h1, tk, hF⟩
    rw [toyT_ev0]
    exact ⟨rfl, F1, h1, keepF tk hF⟩)
  have HQ1 : Hid (∀ W F, C.K wT W toyT toyL toyT1 cb0 F → Calls Tryd.prog 24 #[.pointer (some ⟨cb0, 0, none⟩), .int .i64 1] W fun e w2 => e = .returned .nilIface ∧ ∃ F1, C.K wT w2 toyT toyL toyT2 cb0 F1 ∧ ∀ b, b < W.heap.size → b ∉ F → w2.heap[b]? = W.heap[b]? ∧ b ∉ F1) := fun W F h => (C.ask 1 h toyT_e toyT_ok1).mono (by
    rintro e w2 ⟨rfl, F1, h1, tk, hF⟩
    rw [toyT_ask]
    exact ⟨rfl, F1, h1, keepF tk hF⟩)
  have HQ2 : Hid (∀ W F, C.K wT W toyT toyL toyT2 cb0 F → Calls Tryd.prog 23 #[.pointer (some ⟨cb0, 0, none⟩)] W fun e w2 => e = .returned (.agg #[.int .i64 1, .int .i64 (-1), .int .i64 0, .int .i64 0]) ∧ ∃ F1, C.K wT w2 toyT toyL toyT3 cb0 F1 ∧ ∀ b, b < W.heap.size → b ∉ F → w2.heap[b]? = W.heap[b]? ∧ b ∉ F1) := fun W F h => (C.tick HGA.out h toyT_e toyT_ok2 toyT_t2).mono (by
    rintro e w2 ⟨rfl, F1, h1, tk, hF⟩
    rw [toyT_ev2]
    exact ⟨rfl, F1, h1, keepF tk hF⟩)
  have HQ3 : Hid (∀ W F, C.K wT W toyT toyL toyT3 cb0 F → Calls Tryd.prog 23 #[.pointer (some ⟨cb0, 0, none⟩)] W fun e w2 => e = .returned (.agg #[.int .i64 2, .int .i64 0, .int .i64 0, .int .i64 0]) ∧ ∃ F1, C.K wT w2 toyT toyL toyT4 cb0 F1 ∧ ∀ b, b < W.heap.size → b ∉ F → w2.heap[b]? = W.heap[b]? ∧ b ∉ F1) := fun W F h => (C.tick HGA.out h toyT_e toyT_ok3 toyT_t3).mono (by
    rintro e w2 ⟨rfl, F1, h1, tk, hF⟩
    rw [toyT_ev3]
    exact ⟨rfl, F1, h1, keepF tk hF⟩)
  have HQ4 : Hid (∀ W F, C.K wT W toyT toyL toyT4 cb0 F → Calls Tryd.prog 25 #[.pointer (some ⟨cb0, 0, none⟩)] W fun e w2 => e = .returned (.int .i64 1) ∧ Below W.heap.size W w2) := fun W F h => (C.now h toyT_e toyT_ok4).mono (by
    rintro e w2 ⟨rfl, h1⟩
    rw [toyT_now]
    exact ⟨rfl, h1⟩)
  have p0 := HQ0.out w1 F0 hT0
  have hge0 := C.ge hT0
  clear hT0 HQ0
  go_upto_region 6 with (go_at_call 23; refine p0.mono ?_; rintro e w2 ⟨rfl, F1, hT1, _⟩; clear p0)
  have bB : Below w2.heap.size w2 (w2.alloc (.cells #[.int .i64 0, .int .i64 (-1), .int .i64 0, .int .i64 0] 45)) := (Below.refl _ _).alloc (Nat.le_refl _) _
  have ea : EvB (w2.alloc (.cells #[.int .i64 0, .int .i64 (-1), .int .i64 0, .int .i64 0] 45)) w2.heap.size 0 (-1) 0 0 := World.alloc_heap_new w2 _
  have ha : w2.heap.size ∉ F1 := fun hm => by have := (C.ge hT1 _ hm).2; omega
  replace hT1 := C.frame hT1 (KTouch.of (M := []) bB) (by simp)
  clear bB
  generalize w2.alloc (.cells #[.int .i64 0, .int .i64 (-1), .int .i64 0, .int .i64 0] 45) = W2 at ea hT1 ⊢
  generalize w2.heap.size = ba at ea ha ⊢
  have p1 := HQ1.out W2 F1 hT1
  clear hT1 HQ1
  go_upto_region 7 with (go_at_call 24; refine p1.mono ?_; rintro e w3 ⟨rfl, F2, hT2, kp⟩; clear p1)
  have ha2 := kp ba ea.lt ha
  replace ea : EvB w3 ba 0 (-1) 0 0 := ha2.1.trans ea
  replace ha := ha2.2
  clear kp ha2
  have p2 := HQ2.out w3 F2 hT2
  clear hT2 HQ2
  go_upto_region 8 with (go_at_call 23; refine p2.mono ?_; rintro e w4 ⟨rfl, F3, hT3, kp⟩; clear p2)
  have ha2 := kp ba ea.lt ha
  replace ea : EvB w4 ba 0 (-1) 0 0 := ha2.1.trans ea
  replace ha := ha2.2
  clear kp ha2
  have bB : Below w4.heap.size w4 (w4.alloc (.cells #[.int .i64 1, .int .i64 (-1), .int .i64 0, .int .i64 0] 45)) := (Below.refl _ _).alloc (Nat.le_refl _) _
  have eb : EvB (w4.alloc (.cells #[.int .i64 1, .int .i64 (-1), .int .i64 0, .int .i64 0] 45)) w4.heap.size 1 (-1) 0 0 := World.alloc_heap_new w4 _
  have hb : w4.heap.size ∉ F3 := fun hm => by have := (C.ge hT3 _ hm).2; omega
  replace ea : EvB (w4.alloc (.cells #[.int .i64 1, .int .i64 (-1), .int .i64 0, .int .i64 0] 45)) ba 0 (-1) 0 0 := (bB.block ba ea.lt).trans ea
  replace hT3 := C.frame hT3 (KTouch.of (M := []) bB) (by simp)
  clear bB
  generalize w4.alloc (.cells #[.int .i64 1, .int .i64 (-1), .int .i64 0, .int .i64 0] 45) = W4 at ea eb hT3 ⊢
  generalize w4.heap.size = bb at eb hb ⊢
  have p3 := HQ3.out W4 F3 hT3
  clear hT3 HQ3
  go_upto_region 9 with (go_at_call 23; refine p3.mono ?_; rintro e w5 ⟨rfl, F4, hT4, kp⟩; clear p3)
  replace ea : EvB w5 ba 0 (-1) 0 0 := (kp ba ea.lt ha).1.trans ea
  replace eb : EvB w5 bb 1 (-1) 0 0 := (kp bb eb.lt hb).1.trans eb
  clear kp ha hb
  have bB : Below w5.heap.size w5 (w5.alloc (.cells #[.int .i64 2, .int .i64 0, .int .i64 0, .int .i64 0] 45)) := (Below.refl _ _).alloc (Nat.le_refl _) _
  have ec : EvB (w5.alloc (.cells #[.int .i64 2, .int .i64 0, .int .i64 0, .int .i64 0] 45)) w5.heap.size 2 0 0 0 := World.alloc_heap_new w5 _
  replace ea : EvB (w5.alloc (.cells #[.int .i64 2, .int .i64 0, .int .i64 0, .int .i64 0] 45)) ba 0 (-1) 0 0 := (bB.block ba ea.lt).trans ea
  replace eb : EvB (w5.alloc (.cells #[.int .i64 2, .int .i64 0, .int .i64 0, .int .i64 0] 45)) bb 1 (-1) 0 0 := (bB.block bb eb.lt).trans eb
  replace hT4 := C.frame hT4 (KTouch.of (M := []) bB) (by simp)
  clear bB
  generalize w5.alloc (.cells #[.int .i64 2, .int .i64 0, .int .i64 0, .int .i64 0] 45) = W5 at ea eb ec hT4 ⊢
  generalize w5.heap.size = bc at ec ⊢
  have p4 := HQ4.out W5 F4 hT4
  obtain ⟨_, a1, _, _⟩ := ea.cs
  obtain ⟨_, b1, _, _⟩ := eb.cs
  obtain ⟨_, c1, _, _⟩ := ec.cs
  have hx5 := hxA.step (C.since hT4)
  clear ea eb ec hT4 HQ4
  go_upto_region 11 with (go_at_call 25; refine p4.mono ?_; rintro e w6 ⟨rfl, b6⟩; clear p4)
  have hx6 := hx5.step b6
  clear a1 b1 c1 hx5 hxA b6 hge0 HGA
  have k0 := hx6.c0
  have k1 := hx6.c1
  have k2 := hx6.c2
  have k3 := hx6.c3
  by_cases hz : tabE p ls = 0
  case neg =>
    have q : Calls Tryd.prog 22 #[.agg #[.slice ca p.code.length cc, .int .i64 p.ticks, .slice sa p.spans.length sc, .slice wa p.wires.length wc'], .slice la ls.length lc] w6 fun e w' => ∃ x, e = .returned (.tuple #[.pointer x, .iface 87 (.int .i64 (tabE p ls))]) ∧ Below w6.heap.size w6 w' := by
      have := C.no p _ _ _ _ ls w6 (HG.out w6 hx6.below) (HP.out.all hx6.below) (HL.out.all hx6.below) hz
      rw [wErr_not hz] at this
      exact this
    generalize tabE p ls = z at q hz
    clear hP hL hS hG
    go_wp2_with (go_at_call 22; refine q.mono ?_; rintro e w7 ⟨xp, rfl, b7⟩; clear q)
    go_ret
    exact ⟨rfl, (hx6.step b7).below⟩
  obtain ⟨hl4, hl0, hlz⟩ := tabE_zero hz
  obtain ⟨lb, lo, u0, g0, l0, rfl, hlb, hlm, hlc, hsp⟩ := HL.out.at hl0
  have hp0 : plchk (withS p l0) = 0 := hlz l0 (List.mem_of_getElem? hlm)
  have HLM : Hid (ls[0]? = some l0) := hlm
  have htk1 : 1 ≤ p.ticks := (fchk_zero (plchk_zero hp0).2.2.1).1
  have htk2 : p.ticks ≤ 40 := (fchk_zero (plchk_zero hp0).2.2.1).2.1
  have q : Calls Tryd.prog 22 #[.agg #[.slice ca p.code.length cc, .int .i64 p.ticks, .slice sa p.spans.length sc, .slice wa p.wires.length wc'], .slice (some ⟨lb, lo, none⟩) ls.length lc] w6 fun e w' => ∃ cb F, e = .returned (.tuple #[.pointer (some ⟨cb, 0, none⟩), .nilIface]) ∧ C.K w6 w' p ls (newT p) cb F := C.new p _ _ _ _ ls w6 (HG.out w6 hx6.below) (HP.out.all hx6.below) (HL.out.all hx6.below) hz
  have HG6 : Hid (G w6) := HG.out w6 hx6.below
  have hn0 : ((ls.length : Int) == 0) = false := by
    simp only [beq_eq_false_iff_ne, ne_eq]
    omega
  have hn1 : (ls.length == 0) = false := by
    simp only [beq_eq_false_iff_ne, ne_eq]
    omega
  have hn2 : decide (p.ticks < 1) = false := decide_eq_false (by omega)
  have hli : (0 : Int) < (ls.length : Int) := by omega
  have HSP : Hid (Sps w (.slice u0 l0.length g0) l0) := hsp
  clear hP hL hS hG hlm hsp hlz
  go_upto_region 14 with (go_at_call 22; refine q.mono ?_; rintro e w7 ⟨cb, F, rfl, hT⟩; clear q)
  have hx7 := hx6.step (C.since hT)
  clear k0 k1 k2 k3
  have k0 := hx7.c0
  have k1 := hx7.c1
  have k2 := hx7.c2
  have k3 := hx7.c3
  go_upto_region 15 with fail
  have bB : Below w7.heap.size w7 (w7.alloc (.cells #[.slice ca p.code.length cc, .int .i64 p.ticks, .slice sa p.spans.length sc, .slice wa p.wires.length wc'] 26)) := (Below.refl _ _).alloc (Nat.le_refl _) _
  have hblk : (w7.alloc (.cells #[.slice ca p.code.length cc, .int .i64 p.ticks, .slice sa p.spans.length sc, .slice wa p.wires.length wc'] 26)).heap[w7.heap.size]? = some (.cells #[.slice ca p.code.length cc, .int .i64 p.ticks, .slice sa p.spans.length sc, .slice wa p.wires.length wc'] 26 (0, 0)) := World.alloc_heap_new w7 _
  have hqF : w7.heap.size ∉ F := fun hm => by have := (C.ge hT _ hm).2; omega
  have hq6 : w6.heap.size ≤ w7.heap.size := (C.since hT).size
  have hqw : w.heap.size + 1 ≤ w7.heap.size := hx7.size
  replace hT := C.frame hT (KTouch.of (M := []) bB) (by simp)
  have hx8 := hx7.step bB
  clear bB k0 k1 k2 k3 hx7
  generalize w7.alloc (.cells #[.slice ca p.code.length cc, .int .i64 p.ticks, .slice sa p.spans.length sc, .slice wa p.wires.length wc'] 26) = W8 at hblk hT hx8 ⊢
  generalize w7.heap.size = qb at hblk hqF hq6 hqw ⊢
  have k1 := hx8.c1
  have hqb : qb < W8.heap.size := (Array.getElem?_eq_some_iff.1 hblk).1
  have lcl : W8.cell? ⟨lb, lo, none⟩ = some (.slice u0 l0.length g0) := (hx8.below.cell (p := ⟨lb, lo, none⟩) hlb).trans (by simpa using hlc)
  have qc2 : W8.cell? ⟨qb, 2, none⟩ = some (.slice sa p.spans.length sc) := by simp [World.cell?, hblk]
  have qf2 : W8.frozen? ⟨qb, 2, none⟩ = false := by simp [World.frozen?, hblk]
  go_upto_region 18 with fail
  have tkq : KTouch [qb] W8 (W8.setCell ⟨qb, 2, none⟩ (.slice u0 l0.length g0)) := KTouch.set W8 (by simp) 2 _
  have hblk9 : (W8.setCell ⟨qb, 2, none⟩ (.slice u0 l0.length g0)).heap[qb]? = some (.cells #[.slice ca p.code.length cc, .int .i64 p.ticks, .slice u0 l0.length g0, .slice wa p.wires.length wc'] 26 (0, 0)) := by simp [World.setCell, Array.getElem?_modify, hblk]
  replace hT := C.frame hT tkq (fun m hm => by rw [List.mem_singleton] at hm; subst hm; exact ⟨hqF, hq6⟩)
  have hx9 : Bx w (W8.setCell ⟨qb, 2, none⟩ (.slice u0 l0.length g0)) (.slice ca p.code.length cc) p.ticks (.slice sa p.spans.length sc) (.slice wa p.wires.length wc') := Below.trans hx8 (tkq.below (fun m hm => by rw [List.mem_singleton] at hm; omega) hx8.size)
  clear hblk qc2 qf2 lcl k1 tkq hx8
  generalize W8.setCell ⟨qb, 2, none⟩ (.slice u0 l0.length g0) = W9 at hblk9 hT hx9 ⊢
  have q0 : W9.cell? ⟨qb, 0, none⟩ = some (.slice ca p.code.length cc) := by simp [World.cell?, hblk9]
  have q1 : W9.cell? ⟨qb, 1, none⟩ = some (.int .i64 p.ticks) := by simp [World.cell?, hblk9]
  have q2 : W9.cell? ⟨qb, 2, none⟩ = some (.slice u0 l0.length g0) := by simp [World.cell?, hblk9]
  have q3 : W9.cell? ⟨qb, 3, none⟩ = some (.slice wa p.wires.length wc') := by simp [World.cell?, hblk9]
  have hPq : Pln W9 (.slice ca p.code.length cc) (.slice u0 l0.length g0) (.slice wa p.wires.length wc') (withS p l0) := ⟨(HP.out.all hx9.below).code, HSP.out.all hx9.below, (HP.out.all hx9.below).wires⟩
  have qk : Calls Tryd.prog 18 #[.agg #[.slice ca p.code.length cc, .int .i64 p.ticks, .slice u0 l0.length g0, .slice wa p.wires.length wc']] W9 fun e w' => ∃ kb H, e = .returned (.tuple #[.pointer (some ⟨kb, 0, none⟩), .nilIface]) ∧ D.K W9 w' (withS p l0) (.slice ca p.code.length cc) (.slice u0 l0.length g0) (.slice wa p.wires.length wc') (newT p).k kb H := D.new (withS p l0) _ _ _ W9 (HG.out W9 hx9.below) hPq hp0
  clear hPq hblk9
  go_upto_region 22 with (go_at_call 18; refine qk.mono ?_; rintro e w10 ⟨kb, H, rfl, hK⟩; clear qk)
  have hTK : TK C D w6 w10 p ls (withS p l0) (.slice ca p.code.length cc) (.slice u0 l0.length g0) (.slice wa p.wires.length wc') (newT p) (newT p).k cb F kb H := by
    refine ⟨C.frame hT (KTouch.of (M := []) (D.since hK)) (by simp), D.lower (C.since hT) hK, fun g hg hm => ?_, newT_ok hz, new_ok hp0⟩
    have h5 := (C.ge hT g hg).2
    have h6 := (D.ge hK g hm).1
    omega
  have hx10 := hx9.step (D.since hK)
  clear hT hK q0 q1 q2 q3 hx9
  have qn := tk_now hz hTK
  rw [newT_count] at qn
  go_upto_region 23 with (go_at_call 25; refine qn.mono ?_; rintro e w11 ⟨rfl, b11⟩; clear qn)
  replace hTK := hTK.all b11
  replace hx10 := hx10.step b11
  have hs6 := hx6.size
  clear b11 hx6 hqF hq6 hqw hqb
  go_wp2
  go_loopw [18, 19, 20, 21] (fun s18 s19 s20 s21 wr => ∃ (i : Nat) (d : TbD) (k : KD) (F H : List Nat) (asked : Bool) (nowv T : Int), i ≤ 120 ∧ s21 = .int .i64 i ∧ s20 = .int .i64 T ∧ s18 = .bool asked ∧ s19 = .int .i64 nowv ∧ T = d.k.time ∧ (asked = false → d.now = 0 ∧ d.next = 0 ∧ k = d.k) ∧ k.time = T ∧ (T % p.ticks ≠ 0 → nowv = (d.now : Int)) ∧ T ≤ i ∧ TK C D w6 wr p ls (withS p l0) (.slice ca p.code.length cc) (.slice u0 l0.length g0) (.slice wa p.wires.length wc') d k cb F kb H ∧ Bx w wr (.slice ca p.code.length cc) p.ticks (.slice sa p.spans.length sc) (.slice wa p.wires.length wc')) (fun _ _ _ s _ => 120 - (intOf s).toNat)
  case atStart => exact ⟨0, newT p, (newT p).k, F, H, false, 0, 0, Nat.zero_le _, rfl, rfl, rfl, rfl, rfl, fun _ => ⟨rfl, rfl, rfl⟩, rfl, fun _ => rfl, (by show (0 : Int) ≤ ((0 : Nat) : Int); omega), hTK, hx10⟩
  case round =>
  clear hTK hx10
  obtain ⟨i, d, k, F1, H1, asked, nowv, T, hi, rfl, rfl, rfl, rfl, hTe, hask, hkt, hnow, hTi, hTK, hx⟩ := hrel
  by_cases hil : i < xs.length
  case neg =>
    have hil' : decide ((i : Int) < (xs.length : Int)) = false := decide_eq_false (by omega)
    have hiln : decide (i < xs.length) = false := decide_eq_false hil
    clear hTK hask hnow
    go_wp2
    go_ret
    exact ⟨rfl, hx.below⟩
  have hii : (i : Int) < (xs.length : Int) := by omega
  by_cases hi2 : i < 120
  case neg =>
    obtain rfl : i = 120 := by omega
    rw [show ((120 : Nat) : Int) = 120 from rfl] at hii ⊢
    clear hTK hask hnow
    go_wp2
    go_ret
    exact ⟨rfl, hx.below⟩
  have hi6 : (i : Int) < 120 := by omega
  have hT0 : 0 ≤ T := by rw [hTe]; exact hTK.ok.k.time
  rename World => wA
  obtain ⟨xb, xo, x, rfl, hxc, _⟩ := HS.out.at hx.below hil
  have HKT : Hid (k.time = T ∧ T = d.k.time) := ⟨hkt, hTe⟩
  have HAS : Hid (asked = false → d.now = 0 ∧ d.next = 0 ∧ k = d.k) := hask
  have HNW : Hid (T % p.ticks ≠ 0 → nowv = (d.now : Int)) := hnow
  clear hkt hTe hask hnow
  have k1 := hx.c1
  by_cases hx0 : 0 < x
  · have hx0' : decide (0 < x) = true := decide_eq_true hx0
    go_upto_region 28 with fail
    go_cut [18] from 113 to 123 (fun s18 wx => ∃ (asked' : Bool) (d' : TbD) (F' : List Nat), s18 = .bool asked' ∧ (asked' = false → d'.now = 0 ∧ d'.next = 0 ∧ k = d'.k) ∧ d'.k = d.k ∧ d'.now = d.now ∧ TK C D w6 wx p ls (withS p l0) (.slice ca p.code.length cc) (.slice u0 l0.length g0) (.slice wa p.wires.length wc') d' k cb F' kb H1 ∧ Bx w wx (.slice ca p.code.length cc) p.ticks (.slice sa p.spans.length sc) (.slice wa p.wires.length wc'))
    case first =>
      cases asked with
      | true =>
        have HT : Hid (TK C D w6 wA p ls (withS p l0) (.slice ca p.code.length cc) (.slice u0 l0.length g0) (.slice wa p.wires.length wc') d k cb F1 kb H1 ∧ Bx w wA (.slice ca p.code.length cc) p.ticks (.slice sa p.spans.length sc) (.slice wa p.wires.length wc')) := ⟨hTK, hx⟩
        clear hTK hx
        go_wp2_with fail
        go_meet
        case rel => exact ⟨true, d, F1, rfl, fun h => (by cases h), rfl, rfl, HT.out.1, HT.out.2⟩
      | false =>
        have HAk : Hid (∀ y : Int, Calls Tryd.prog 24 #[.pointer (some ⟨cb, 0, none⟩), .int .i64 y] wA fun e w' => ∃ (d' : TbD) (F' : List Nat) (ak : Bool), e = .returned (wErr (errB (!ak))) ∧ (ak = false → d'.now = 0 ∧ d'.next = 0 ∧ k = d'.k) ∧ d'.k = d.k ∧ d'.now = d.now ∧ TK C D w6 w' p ls (withS p l0) (.slice ca p.code.length cc) (.slice u0 l0.length g0) (.slice wa p.wires.length wc') d' k cb F' kb H1 ∧ Bx w w' (.slice ca p.code.length cc) p.ticks (.slice sa p.spans.length sc) (.slice wa p.wires.length wc')) := fun y => by
          refine (tk_ask hz y hTK).mono ?_
          rintro e w' ⟨rfl, F', hTK', tk, hF⟩
          have hxx : Bx w w' (.slice ca p.code.length cc) p.ticks (.slice sa p.spans.length sc) (.slice wa p.wires.length wc') := Below.trans hx (tk.below (fun m hm => by have := (C.ge hTK.T m hm).1; omega) hx.size)
          obtain ⟨h1, h2⟩ := askT_k ls d y
          by_cases he : askE ls y = 0
          · exact ⟨_, F', true, by rw [he]; rfl, fun h => (by cases h), h1, h2, hTK', hxx⟩
          · have he1 : askE ls y = 1 := by
              unfold askE at he ⊢
              split
              · rfl
              · rename_i h
                rw [if_neg h] at he
                exact absurd rfl he
            have hd : askT ls d y = d := by
              unfold askT
              rw [if_neg he]
            rw [hd] at hTK'
            exact ⟨d, F', false, by rw [he1]; rfl, fun _ => HAS.out rfl, rfl, rfl, hTK', hxx⟩
        clear hTK hx
        go_wp2_with (go_at_call 24; refine (HAk.out _).mono ?_; rintro e w12 ⟨d', F', ak, rfl, h1, h2, h3, h4, h5⟩; cases ak <;> simp only [errB, wErr, Bool.not_false, Bool.not_true, if_true, Bool.false_eq_true, if_false])
        all_goals (go_meet; exact ⟨_, d', F', rfl, (by first | exact h1 | exact fun _ => h1 trivial | exact fun h => (by cases h)), h2, h3, h4, h5⟩)
    case rest =>
    obtain ⟨asked', d', F', rfl, h1, h2, h3, hTK', hx'⟩ := hcut
    generalize wc = wB at *
    have HA' : Hid (asked' = false → d'.now = 0 ∧ d'.next = 0 ∧ k = d'.k) := h1
    have HD' : Hid (T = d'.k.time ∧ (T % p.ticks ≠ 0 → nowv = (d'.now : Int))) := ⟨by rw [h2]; exact HKT.out.2, by rw [h3]; exact HNW.out⟩
    clear hTK hx h1 h2 h3 hxc k1
    have k1 := hx'.c1
    by_cases hTm : T % p.ticks = 0
    · have hTm' : (T % p.ticks != 0) = false := by simpa using hTm
      have HT : Hid (TK C D w6 wB p ls (withS p l0) (.slice ca p.code.length cc) (.slice u0 l0.length g0) (.slice wa p.wires.length wc') d' k cb F' kb H1 ∧ Bx w wB (.slice ca p.code.length cc) p.ticks (.slice sa p.spans.length sc) (.slice wa p.wires.length wc')) := ⟨hTK', hx'⟩
      clear hTK' hx' hTm
      go_wp2
      go_roundw
      case rel => exact ⟨i + 1, d', k, F', H1, asked', nowv, T, by omega, by go_num, rfl, rfl, rfl, HD'.out.1, HA'.out, HKT.out.1, HD'.out.2, (by push_cast; omega), HT.out.1, HT.out.2⟩
      case measure => simp [intOf]; omega
    · have hTm' : (T % p.ticks != 0) = true := by simpa using hTm
      have qn := tk_now hz hTK'
      rw [count_within (d := d') (by rw [← HD'.out.1]; exact hTm), ← HD'.out.2 hTm] at qn
      have HT : Hid (∀ w', Below wB.heap.size wB w' → TK C D w6 w' p ls (withS p l0) (.slice ca p.code.length cc) (.slice u0 l0.length g0) (.slice wa p.wires.length wc') d' k cb F' kb H1 ∧ Bx w w' (.slice ca p.code.length cc) p.ticks (.slice sa p.spans.length sc) (.slice wa p.wires.length wc')) := fun w' hb => ⟨hTK'.all hb, hx'.step hb⟩
      clear hTK' hx' hTm
      go_wp2_with (go_at_call 25; refine qn.mono ?_; rintro e w13 ⟨rfl, b13⟩; clear qn)
      go_roundw
      case rel => exact ⟨i + 1, d', k, F', H1, asked', nowv, T, by omega, by go_num, rfl, rfl, rfl, HD'.out.1, HA'.out, HKT.out.1, HD'.out.2, (by push_cast; omega), (HT.out w13 b13).1, (HT.out w13 b13).2⟩
      case measure => simp [intOf]; omega
  · have hx0' : decide (0 < x) = false := decide_eq_false hx0
    have qn := tk_now hz hTK
    have hcl := countT_lt hTK.ok
    have HCT : Hid ((T + 1) % p.ticks ≠ 0 → countT p (tickT p ls d) = countT p d) := fun h => count_stays (by rw [tickT_time, ← HKT.out.2]; exact h)
    have HNow2 : Hid ((tickT p ls d).now = countT p d) := rfl
    have HEv : Hid ((evT p ls d).1 = T) := by
      show _ = _
      rw [evT_tick, ← HKT.out.2]
    have HLz : Hid (asked = false → evT p ls d = (tickK (withS p l0) (withS p l0).spans k).2 ∧ (tickT p ls d).now = 0 ∧ (tickT p ls d).next = 0 ∧ (tickK (withS p l0) (withS p l0).spans k).1 = (tickT p ls d).k) := fun h => by
      obtain ⟨h1, h2, h3⟩ := HAS.out h
      obtain ⟨e1, e2, e3, e4⟩ := list_zero (p := p) h1 h2 HLM.out
      rw [h3]
      exact ⟨e1, e3, e4, e2.symm⟩
    have HTm2 : Hid ((tickK (withS p l0) (withS p l0).spans k).1.time = T + 1 ∧ T + 1 = (tickT p ls d).k.time) := ⟨by rw [tick_time, HKT.out.1], by rw [tickT_time, ← HKT.out.2]⟩
    have HTk : Hid (∀ W, Below wA.heap.size wA W → Calls Tryd.prog 23 #[.pointer (some ⟨cb, 0, none⟩)] W fun e w2 => e = .returned (evA (evT p ls d)) ∧ W.heap.size ≤ w2.heap.size ∧ ∀ w3, Below w2.heap.size w2 w3 → Calls Tryd.prog 20 #[.pointer (some ⟨kb, 0, none⟩)] w3 fun e w' => e = .returned (evA (tickK (withS p l0) (withS p l0).spans k).2) ∧ ∃ F' H', TK C D w6 w' p ls (withS p l0) (.slice ca p.code.length cc) (.slice u0 l0.length g0) (.slice wa p.wires.length wc') (tickT p ls d) (tickK (withS p l0) (withS p l0).spans k).1 cb F' kb H' ∧ Bx w w' (.slice ca p.code.length cc) p.ticks (.slice sa p.spans.length sc) (.slice wa p.wires.length wc') ∧ ∀ b, W.heap.size ≤ b → b < w3.heap.size → w'.heap[b]? = w3.heap[b]?) := fun W hb => by
      have hTKw := hTK.all hb
      have hxw := hx.step hb
      refine (tk_tick HG6.out hz hp0 (by rw [← HKT.out.2]; omega) (by rw [HKT.out.1]; omega) hTKw).mono ?_
      rintro e w2 ⟨rfl, hsz, q2⟩
      refine ⟨rfl, hsz, fun w3 b3 => (q2 w3 b3).mono ?_⟩
      rintro e w' ⟨rfl, F', H', h1, ⟨tk1, tk2⟩, hF⟩
      refine ⟨rfl, F', H', h1, Below.trans hxw (tk1.below (fun m hm => by have := hTKw.hge m hm; omega) hxw.size), fun b hb1 hb2 => tk2.block b hb2 (fun hm => ?_)⟩
      have := hTKw.hlt b (List.mem_append.2 (Or.inr hm))
      omega
    unfold evA at HTk
    generalize hev : evT p ls d = ev at HTk HEv HLz
    generalize hkv : (tickK (withS p l0) (withS p l0).spans k).2 = kv at HTk HLz
    generalize (tickK (withS p l0) (withS p l0).spans k).1 = k' at HTk HLz HTm2
    generalize htd : tickT p ls d = d' at HTk HLz HTm2 HCT HNow2
    clear hev hkv htd
    obtain ⟨t1, t2, t3, t4⟩ := ev
    obtain ⟨v1, v2, v3, v4⟩ := kv
    simp only at HTk HEv HLz
    obtain rfl : t1 = T := HEv.out
    clear HEv
    generalize countT p d = cn at *
    have hc1 : decide ((cn : Int) < 0) = false := decide_eq_false (by omega)
    have hc2 : decide ((ls.length : Int) ≤ (cn : Int)) = false := decide_eq_false (by omega)
    have hc3 : decide (ls.length ≤ cn) = false := decide_eq_false (by omega)
    clear hTK hx
    go_upto_region 32 with (go_at_call 25; refine qn.mono ?_; rintro e wB ⟨rfl, bB⟩; clear qn)
    have p1 := HTk.out wB bB
    go_upto_region 33 with (go_at_call 23; refine p1.mono ?_; rintro e wC ⟨rfl, hszC, p2⟩; clear p1)
    have bD : Below wC.heap.size wC (wC.alloc (.cells #[.int .i64 t1, .int .i64 t2, .int .i64 t3, .int .i64 t4] 45)) := (Below.refl _ _).alloc (Nat.le_refl _) _
    have ea : EvB (wC.alloc (.cells #[.int .i64 t1, .int .i64 t2, .int .i64 t3, .int .i64 t4] 45)) wC.heap.size t1 t2 t3 t4 := World.alloc_heap_new wC _
    have p3 := p2 _ bD
    have hBC : wB.heap.size ≤ wC.heap.size := hszC
    clear p2 bD
    generalize wC.alloc (.cells #[.int .i64 t1, .int .i64 t2, .int .i64 t3, .int .i64 t4] 45) = wD at ea p3 ⊢
    generalize wC.heap.size = ba at ea hBC ⊢
    go_upto_region 34 with (go_at_call 20; refine p3.mono ?_; rintro e wE ⟨rfl, F2, H2, hTK2, hx2, hkp⟩; clear p3)
    replace ea : EvB wE ba t1 t2 t3 t4 := (hkp ba hBC ea.lt).trans ea
    have bF : Below wE.heap.size wE (wE.alloc (.cells #[.int .i64 v1, .int .i64 v2, .int .i64 v3, .int .i64 v4] 45)) := (Below.refl _ _).alloc (Nat.le_refl _) _
    have eb : EvB (wE.alloc (.cells #[.int .i64 v1, .int .i64 v2, .int .i64 v3, .int .i64 v4] 45)) wE.heap.size v1 v2 v3 v4 := World.alloc_heap_new wE _
    replace ea : EvB (wE.alloc (.cells #[.int .i64 v1, .int .i64 v2, .int .i64 v3, .int .i64 v4] 45)) ba t1 t2 t3 t4 := (bF.block ba ea.lt).trans ea
    replace hTK2 := hTK2.all bF
    replace hx2 := hx2.step bF
    clear hkp bF hBC
    generalize wE.alloc (.cells #[.int .i64 v1, .int .i64 v2, .int .i64 v3, .int .i64 v4] 45) = wF at ea eb hTK2 hx2 ⊢
    generalize wE.heap.size = bb at eb ⊢
    obtain ⟨e1, e2, e3, e4⟩ := ea.cs
    obtain ⟨f1, f2, f3, f4⟩ := eb.cs
    have k1 := hx2.c1
    have heq := neq_ev
    have qn2 := tk_now hz hTK2
    have HT : Hid (∀ w', Below wF.heap.size wF w' → TK C D w6 w' p ls (withS p l0) (.slice ca p.code.length cc) (.slice u0 l0.length g0) (.slice wa p.wires.length wc') d' k' cb F2 kb H2 ∧ Bx w w' (.slice ca p.code.length cc) p.ticks (.slice sa p.spans.length sc) (.slice wa p.wires.length wc')) := fun w' hb => ⟨hTK2.all hb, hx2.step hb⟩
    have hT1 : 0 ≤ t1 + 1 := by omega
    have HRel : Hid (∀ w', Below wF.heap.size wF w' → ∃ (i' : Nat) (d : TbD) (k : KD) (F H : List Nat) (asked' : Bool) (nowv T : Int), i' = i + 1 ∧ asked' = asked ∧ nowv = (cn : Int) ∧ T = t1 + 1 ∧ T = d.k.time ∧ (asked' = false → d.now = 0 ∧ d.next = 0 ∧ k = d.k) ∧ k.time = T ∧ (T % p.ticks ≠ 0 → nowv = (d.now : Int)) ∧ T ≤ ((i + 1 : Nat) : Int) ∧ TK C D w6 w' p ls (withS p l0) (.slice ca p.code.length cc) (.slice u0 l0.length g0) (.slice wa p.wires.length wc') d k cb F kb H ∧ Bx w w' (.slice ca p.code.length cc) p.ticks (.slice sa p.spans.length sc) (.slice wa p.wires.length wc')) := fun w' hb => ⟨i + 1, d', k', F2, H2, asked, cn, t1 + 1, rfl, rfl, rfl, rfl, HTm2.out.2, fun h => ⟨(HLz.out h).2.1, (HLz.out h).2.2.1, (HLz.out h).2.2.2⟩, HTm2.out.1, fun _ => by rw [HNow2.out], (by push_cast; omega), (HT.out w' hb).1, (HT.out w' hb).2⟩
    clear ea eb hTK2 hx2 HT HTm2
    cases asked with
    | true =>
      clear HLz
      by_cases hTm : (t1 + 1) % p.ticks = 0
      · have hTm' : ((t1 + 1) % p.ticks != 0) = false := by simpa using hTm
        clear hTm qn2
        go_wp2
        go_roundw
        case rel =>
          obtain ⟨i', d, k, F, H, asked', nowv, T, rfl, rfl, rfl, rfl, r5, r6, r7, r8, r9, r10, r11⟩ := HRel.out _ (Below.refl _ _)
          exact ⟨i + 1, d, k, F, H, _, _, _, by omega, by go_num, rfl, rfl, rfl, r5, r6, r7, r8, r9, r10, r11⟩
        case measure => simp [intOf]; omega
      · have hTm' : ((t1 + 1) % p.ticks != 0) = true := by simpa using hTm
        rw [HCT.out hTm] at qn2
        clear hTm
        go_wp2_with (go_at_call 25; refine qn2.mono ?_; rintro e wG ⟨rfl, bG⟩; clear qn2)
        go_roundw
        case rel =>
          obtain ⟨i', d, k, F, H, asked', nowv, T, rfl, rfl, rfl, rfl, r5, r6, r7, r8, r9, r10, r11⟩ := HRel.out _ bG
          exact ⟨i + 1, d, k, F, H, _, _, _, by omega, by go_num, rfl, rfl, rfl, r5, r6, r7, r8, r9, r10, r11⟩
        case measure => simp [intOf]; omega
    | false =>
      obtain ⟨he, _, _, _⟩ := HLz.out rfl
      simp only [Prod.mk.injEq] at he
      obtain ⟨rfl, rfl, rfl, rfl⟩ := he
      clear HLz
      by_cases hTm : (t1 + 1) % p.ticks = 0
      · have hTm' : ((t1 + 1) % p.ticks != 0) = false := by simpa using hTm
        clear hTm qn2
        go_wp2
        go_roundw
        case rel =>
          obtain ⟨i', d, k, F, H, asked', nowv, T, rfl, rfl, rfl, rfl, r5, r6, r7, r8, r9, r10, r11⟩ := HRel.out _ (Below.refl _ _)
          exact ⟨i + 1, d, k, F, H, _, _, _, by omega, by go_num, rfl, rfl, rfl, r5, r6, r7, r8, r9, r10, r11⟩
        case measure => simp [intOf]; omega
      · have hTm' : ((t1 + 1) % p.ticks != 0) = true := by simpa using hTm
        rw [HCT.out hTm] at qn2
        clear hTm
        go_wp2_with (go_at_call 25; refine qn2.mono ?_; rintro e wG ⟨rfl, bG⟩; clear qn2)
        go_roundw
        case rel =>
          obtain ⟨i', d, k, F, H, asked', nowv, T, rfl, rfl, rfl, rfl, r5, r6, r7, r8, r9, r10, r11⟩ := HRel.out _ bG
          exact ⟨i + 1, d, k, F, H, _, _, _, by omega, by go_num, rfl, rfl, rfl, r5, r6, r7, r8, r9, r10, r11⟩
        case measure => simp [intOf]; omega
end Go.Proofs.YteejpehfmnjgfafDoor
