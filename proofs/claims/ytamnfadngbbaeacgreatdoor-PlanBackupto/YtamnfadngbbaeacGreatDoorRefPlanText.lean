/-
  frameref1.PlanText: the document's text of a plan that is right.
-/
import Derived.Test.YtamnfadngbbaeacGreatDoorBaseA
import Derived.Test.YtamnfadngbbaeacGreatDoorMathA
import Derived.Test.YtamnfadngbbaeacGreatDoorRefTextA
namespace Go.Proofs.YtamnfadngbbaeacGreatDoor
open Go.RowKit

theorem endL_app (a b : List (List UInt8)) : endL (a ++ b) = endL a ++ endL b := by simp [endL]
theorem endL_one (u : List UInt8) : endL [u] = u ++ [10] := by simp [endL]
theorem endL_room (c : List O3) : endL (roomL c) = [114, 111, 111, 109, 10] ++ textB c := by
  have e : ∀ c : List O3, endL (c.map opL) = textB c := fun c => by
    unfold endL textB
    rw [List.flatMap_map]
    rfl
  unfold roomL
  rw [show wRoom :: c.map opL = [wRoom] ++ c.map opL from rfl, endL_app, endL_one, e]
  rfl
theorem take_more {α : Type} {l : List α} {k : Nat} {x : α} (h : l[k]? = some x) : l.take (k + 1) = l.take k ++ [x] := by
  obtain ⟨hk, rfl⟩ := List.getElem?_eq_some_iff.1 h
  rw [List.take_succ_eq_append_getElem hk]
theorem tail_len {zs : List Int} (h : ∀ z ∈ zs, 0 ≤ z ∧ z ≤ 999) : (tail zs).length ≤ 22 * zs.length := tail_le zs (fun z hz => by have := h z hz; omega)
theorem endL_len {n : Nat} : ∀ (ls : List (List UInt8)), (∀ u ∈ ls, u.length ≤ n) → (endL ls).length ≤ (n + 1) * ls.length
  | [], _ => by simp [endL]
  | u :: ls, h => by
    have h1 := endL_len ls (fun v hv => h v (by simp [hv]))
    have h2 := h u (by simp)
    have e : endL (u :: ls) = u ++ [10] ++ endL ls := by simp [endL]
    rw [e, List.length_append, List.length_append, List.length_cons, List.length_cons, List.length_nil, Nat.mul_succ]
    omega
theorem ints_three {W : World} {k : Nat} (hk : k = W.heap.size) (a b c : Int) (t : TypeId) : Ints (W.alloc (.cells #[.int .i64 a, .int .i64 b, .int .i64 c] t)) (.slice (some ⟨k, 0, none⟩) 3 3) [a, b, c] := by
  subst hk
  refine Or.inr ⟨⟨W.heap.size, 0, none⟩, 3, rfl, by simp, fun i z hz => ?_⟩
  match i, hz with
  | 0, hz => simp at hz; subst hz; simp [Addr.add]
  | 1, hz => simp at hz; subst hz; simp [Addr.add]
  | 2, hz => simp at hz; subst hz; simp [Addr.add]
theorem ints_four {W : World} {k : Nat} (hk : k = W.heap.size) (a b c d : Int) (t : TypeId) : Ints (W.alloc (.cells #[.int .i64 a, .int .i64 b, .int .i64 c, .int .i64 d] t)) (.slice (some ⟨k, 0, none⟩) 4 4) [a, b, c, d] := by
  subst hk
  refine Or.inr ⟨⟨W.heap.size, 0, none⟩, 4, rfl, by simp, fun i z hz => ?_⟩
  match i, hz with
  | 0, hz => simp at hz; subst hz; simp [Addr.add]
  | 1, hz => simp at hz; subst hz; simp [Addr.add]
  | 2, hz => simp at hz; subst hz; simp [Addr.add]
  | 3, hz => simp at hz; subst hz; simp [Addr.add]
theorem ints_lone {W : World} {k : Nat} (hk : k = W.heap.size) (a : Int) (t : TypeId) : Ints (W.alloc (.cells #[.int .i64 a] t)) (.slice (some ⟨k, 0, none⟩) 1 1) [a] := by
  subst hk
  refine Or.inr ⟨⟨W.heap.size, 0, none⟩, 1, rfl, by simp, fun i z hz => ?_⟩
  match i, hz with
  | 0, hz => simp at hz; subst hz; simp [Addr.add]
/-- The text so far. -/
def txF (p : PD) : List UInt8 := frameL p.ticks ++ [10]
def txS (p : PD) (k : Nat) : List UInt8 := txF p ++ endL ((p.spans.take k).map spanL)
def txW (p : PD) (k : Nat) : List UInt8 := txS p p.spans.length ++ endL ((p.wires.take k).map wireL)
def txC (p : PD) (k : Nat) : List UInt8 := txW p p.wires.length ++ endL ((p.code.take k).flatMap roomL)
theorem txS_zero (p : PD) : txS p 0 = txF p := by simp [txS, endL]
theorem txW_zero (p : PD) : txW p 0 = txS p p.spans.length := by simp [txW, endL]
theorem txC_zero (p : PD) : txC p 0 = txW p p.wires.length := by simp [txC, endL]
theorem txS_next {p : PD} {k : Nat} {s : S3} (h : p.spans[k]? = some s) : txS p (k + 1) = txS p k ++ (spanL s ++ [10]) := by
  unfold txS
  rw [take_more h, List.map_append, endL_app, List.append_assoc]
  simp [endL]
theorem txW_next {p : PD} {k : Nat} {s : W4} (h : p.wires[k]? = some s) : txW p (k + 1) = txW p k ++ (wireL s ++ [10]) := by
  unfold txW
  rw [take_more h, List.map_append, endL_app, List.append_assoc]
  simp [endL]
theorem txC_next {p : PD} {k : Nat} {c : List O3} (h : p.code[k]? = some c) : txC p (k + 1) = txC p k ++ ([114, 111, 111, 109, 10] ++ textB c) := by
  unfold txC
  rw [take_more h, List.flatMap_append, endL_app, List.append_assoc, List.flatMap_cons, List.flatMap_nil, List.append_nil, endL_room]
theorem txC_all (p : PD) : txC p p.code.length = planB p := by
  unfold txC txW txS txF planB planL
  rw [List.take_length, List.take_length, List.take_length, show frameL p.ticks :: (p.spans.map spanL ++ (p.wires.map wireL ++ p.code.flatMap roomL)) = [frameL p.ticks] ++ (p.spans.map spanL ++ (p.wires.map wireL ++ p.code.flatMap roomL)) from rfl, endL_app, endL_app, endL_app, endL_one]
  simp
theorem tx_len {p : PD} (h : plchk p = 0) : (txF p).length ≤ 100 ∧ (∀ k, (txS p k).length ≤ 2000) ∧ (∀ k, (txW p k).length ≤ 5000) ∧ ∀ k, (txC p k).length ≤ 20000 := by
  have hs := plan_small h
  obtain ⟨h5, _, hf, hw, _, _, hc, _⟩ := plchk_zero h
  have l1 := (fchk_zero hf).2.2.1
  have l2 := (wschk_ok hw).1
  have t0 := tail_len (zs := [p.ticks]) (fun z hz => by simp at hz; subst hz; exact hs.ticks)
  have a0 : (txF p).length ≤ 100 := by
    simp only [txF, frameL, wFrame, List.length_append, List.length_cons, List.length_nil] at t0 ⊢
    omega
  have a1 : ∀ k, (txS p k).length ≤ 2000 := fun k => by
    have := endL_len (n := 70) ((p.spans.take k).map spanL) (fun u hu => by
      simp only [List.mem_map] at hu
      obtain ⟨s, hsm, rfl⟩ := hu
      have := tail_len (hs.spans s (List.mem_of_mem_take hsm))
      simp only [spanL, wSpan, List.length_append, List.length_cons, List.length_nil] at this ⊢
      omega)
    have hl : (p.spans.take k).length ≤ 12 := by rw [List.length_take]; omega
    rw [List.length_map] at this
    simp only [txS, List.length_append]
    omega
  have a2 : ∀ k, (txW p k).length ≤ 5000 := fun k => by
    have := endL_len (n := 92) ((p.wires.take k).map wireL) (fun u hu => by
      simp only [List.mem_map] at hu
      obtain ⟨s, hsm, rfl⟩ := hu
      have := tail_len (hs.wires s (List.mem_of_mem_take hsm))
      simp only [wireL, wWire, List.length_append, List.length_cons, List.length_nil] at this ⊢
      omega)
    have hl : (p.wires.take k).length ≤ 12 := by rw [List.length_take]; omega
    rw [List.length_map] at this
    have := a1 p.spans.length
    simp only [txW, List.length_append]
    omega
  refine ⟨a0, a1, a2, fun k => ?_⟩
  have key : ∀ cs : List (List O3), (∀ c ∈ cs, (chk c).2 = 0) → (endL (cs.flatMap roomL)).length ≤ 1010 * cs.length := by
    intro cs
    induction cs with
    | nil => intro _; simp [endL]
    | cons c cs ih =>
      intro hcs
      have i1 := ih (fun x hx => hcs x (by simp [hx]))
      obtain ⟨_, z1, z2⟩ := chk_zero (hcs c (by simp))
      have i2 := text_le (l := c) (fun o ho => Or.inr (by have := ok3_small (by omega) (z2 o ho); omega))
      rw [List.flatMap_cons, endL_app, endL_room, List.length_append, List.length_append, List.length_cons]
      simp only [List.length_cons, List.length_nil]
      omega
  have := key (p.code.take k) (fun c hcm => codesE_zero hc c (List.mem_of_mem_take hcm))
  have hl : (p.code.take k).length ≤ 5 := by rw [List.length_take]; omega
  have := a2 p.wires.length
  simp only [txC, List.length_append]
  omega

set_option maxRecDepth 100000 in
set_option maxHeartbeats 8000000 in
theorem plantext_any (p : PD) (vc vs vw : Value) (w : World) (hp : Pln w vc vs vw p) (h : plchk p = 0) :
    Calls Tryz.prog 8 #[plV vc p.ticks vs vw] w fun e w' => e = .returned (.string ⟨(planB p).toArray⟩) ∧ Below w.heap.size w w' := by
  obtain ⟨ca, cc, rfl⟩ := hp.code.form
  obtain ⟨sa, sc, rfl⟩ := hp.spans.form
  obtain ⟨wa, wc, rfl⟩ := hp.wires.form
  have HP : Hid (Pln w (.slice ca p.code.length cc) (.slice sa p.spans.length sc) (.slice wa p.wires.length wc) p) := hp
  have hsm := plan_small h
  have HM : Hid (Small p) := hsm
  obtain ⟨h5, _, hf, hw, _, _, hc, _⟩ := plchk_zero h
  have l1 := (fchk_zero hf).2.2.1
  have l2 := (wschk_ok hw).1
  have HLN : Hid ((txF p).length ≤ 100 ∧ (∀ k, (txS p k).length ≤ 2000) ∧ (∀ k, (txW p k).length ≤ 5000) ∧ ∀ k, (txC p k).length ≤ 20000) := tx_len h
  clear hp hsm h hf hw hc
  unfold plV
  have hx0 := Bx.first w (.slice ca p.code.length cc) p.ticks (.slice sa p.spans.length sc) (.slice wa p.wires.length wc)
  have q1 := fun k hk => row_any [102, 114, 97, 109, 101] (.slice (some ⟨k, 0, none⟩) 1 1) [p.ticks] _ (ints_lone (W := w.alloc (.cells #[.slice ca p.code.length cc, .int .i64 p.ticks, .slice sa p.spans.length sc, .slice wa p.wires.length wc] 26)) (k := k) hk p.ticks 3) (fun z hz => by simp at hz; subst hz; have := HM.out.ticks; omega) (by simp)
  have hl0 : ([102, 114, 97, 109, 101] ++ tail [p.ticks]).length ≤ 100 := by
    have := HLN.out.1
    simp only [txF, frameL, wFrame, List.length_append, List.length_cons, List.length_nil] at this ⊢
    omega
  obtain ⟨D0, hD0⟩ : ∃ D, D = ([102, 114, 97, 109, 101] ++ tail [p.ticks] : List UInt8) := ⟨_, rfl⟩
  rw [← hD0] at q1 hl0
  have HD0 : Hid (D0 ++ [10] = txF p) := by show _ = _; rw [hD0]; rfl
  clear hD0
  go_enter Tryz.func8, Tryz.ntmps8
  go_wp2_with (go_at_call 22; refine (q1 _ (by simp)).mono ?_; rintro e w1 ⟨rfl, b1⟩; clear q1; have hx1 := (hx0.step ((Below.refl _ _).alloc (Nat.le_refl _) _)).step b1; clear b1)
  go_loopw [3, 4] (fun s i wr => ∃ k : Nat, k ≤ p.spans.length ∧ i = .int .i64 k ∧ s = .string ⟨(txS p k).toArray⟩ ∧ Bx w wr (.slice ca p.code.length cc) p.ticks (.slice sa p.spans.length sc) (.slice wa p.wires.length wc)) (fun _ i _ => p.spans.length - (intOf i).toNat)
  case atStart => exact ⟨0, Nat.zero_le _, rfl, by rw [txS_zero, ← HD0.out]; exact congrArg Value.string (ba_app D0 [10]), hx1⟩
  case round =>
  clear hx0 hx1 hl0 HD0
  obtain ⟨k, hk, rfl, rfl, hx⟩ := hrel
  have k2 := hx.c2
  have hTl := HLN.out.2.1 k
  by_cases hkl : k < p.spans.length
  · have hki : (k : Int) < (p.spans.length : Int) := by omega
    obtain ⟨b, off, f, t, r, rfl, hlt, hy, d0, d1, d2⟩ := HP.out.spans.at hkl
    replace d0 := (hx.below.cell (p := ⟨b, _, none⟩) hlt).trans d0
    replace d1 := (hx.below.cell (p := ⟨b, _, none⟩) hlt).trans d1
    replace d2 := (hx.below.cell (p := ⟨b, _, none⟩) hlt).trans d2
    have hb3 := HM.out.spans _ (List.mem_of_getElem? hy)
    have HN : Hid (txS p (k + 1) = txS p k ++ (spanL (f, t, r) ++ [10])) := txS_next hy
    have q2 := fun j hj => row_any [115, 112, 97, 110] (.slice (some ⟨j, 0, none⟩) 3 3) [f, t, r] _ (ints_three (W := wr.alloc (.cells #[.int .i64 f, .int .i64 t, .int .i64 r] 45)) (k := j) hj f t r 3) (fun z hz => by have := hb3 z hz; omega) (by simp)
    have hl1 : ([115, 112, 97, 110] ++ tail [f, t, r]).length ≤ 100 := by
      have := tail_len hb3
      simp only [List.length_append, List.length_cons, List.length_nil] at this ⊢
      omega
    obtain ⟨D, hD⟩ : ∃ D, D = ([115, 112, 97, 110] ++ tail [f, t, r] : List UInt8) := ⟨_, rfl⟩
    rw [← hD] at q2 hl1
    have HD : Hid (D = spanL (f, t, r)) := hD
    obtain ⟨T, hT⟩ : ∃ T, T = txS p k := ⟨_, rfl⟩
    rw [← hT] at hTl ⊢
    have HT : Hid (T = txS p k) := hT
    clear hD hT hy hb3
    go_wp2_with (go_at_call 22; refine (q2 _ (by simp)).mono ?_; rintro e w2 ⟨rfl, b2⟩; clear q2; have hx2 := (hx.step (((Below.refl _ _).alloc (Nat.le_refl _) _).alloc (by simp) _)).step b2; clear b2)
    go_roundw
    case rel =>
      refine ⟨k + 1, by omega, by go_num, ?_, hx2⟩
      rw [HN.out, ← HT.out, ← HD.out]
      exact congrArg Value.string (ba_app3 T D [10])
    case measure => simp [intOf]; omega
  obtain rfl : k = p.spans.length := by omega
  have hki : decide ((p.spans.length : Int) < (p.spans.length : Int)) = false := decide_eq_false (by omega)
  rw [← txW_zero]
  go_wp2
  rename World => wo
  go_loopw [3, 6] (fun s i wr => ∃ k : Nat, k ≤ p.wires.length ∧ i = .int .i64 k ∧ s = .string ⟨(txW p k).toArray⟩ ∧ Bx w wr (.slice ca p.code.length cc) p.ticks (.slice sa p.spans.length sc) (.slice wa p.wires.length wc)) (fun _ i _ => p.wires.length - (intOf i).toNat)
  case atStart => exact ⟨0, Nat.zero_le _, rfl, rfl, hx⟩
  case round =>
  clear hx k2 hki hTl hkl hk
  obtain ⟨k, hk, rfl, rfl, hx⟩ := hrel
  have k3 := hx.c3
  have hTl := HLN.out.2.2.1 k
  by_cases hkl : k < p.wires.length
  · have hki : (k : Int) < (p.wires.length : Int) := by omega
    obtain ⟨b, off, f, t, kd, d, rfl, hlt, hy, d0, d1, d2, d3⟩ := HP.out.wires.at hkl
    replace d0 := (hx.below.cell (p := ⟨b, _, none⟩) hlt).trans d0
    replace d1 := (hx.below.cell (p := ⟨b, _, none⟩) hlt).trans d1
    replace d2 := (hx.below.cell (p := ⟨b, _, none⟩) hlt).trans d2
    replace d3 := (hx.below.cell (p := ⟨b, _, none⟩) hlt).trans d3
    have hb3 := HM.out.wires _ (List.mem_of_getElem? hy)
    have HN : Hid (txW p (k + 1) = txW p k ++ (wireL (f, t, kd, d) ++ [10])) := txW_next hy
    have q2 := fun j hj => row_any [119, 105, 114, 101] (.slice (some ⟨j, 0, none⟩) 4 4) [f, t, kd, d] _ (ints_four (W := wr.alloc (.cells #[.int .i64 f, .int .i64 t, .int .i64 kd, .int .i64 d] 47)) (k := j) hj f t kd d 3) (fun z hz => by have := hb3 z hz; omega) (by simp)
    have hl1 : ([119, 105, 114, 101] ++ tail [f, t, kd, d]).length ≤ 100 := by
      have := tail_len hb3
      simp only [List.length_append, List.length_cons, List.length_nil] at this ⊢
      omega
    obtain ⟨D, hD⟩ : ∃ D, D = ([119, 105, 114, 101] ++ tail [f, t, kd, d] : List UInt8) := ⟨_, rfl⟩
    rw [← hD] at q2 hl1
    have HD : Hid (D = wireL (f, t, kd, d)) := hD
    obtain ⟨T, hT⟩ : ∃ T, T = txW p k := ⟨_, rfl⟩
    rw [← hT] at hTl ⊢
    have HT : Hid (T = txW p k) := hT
    clear hD hT hy hb3
    go_wp2_with (go_at_call 22; refine (q2 _ (by simp)).mono ?_; rintro e w2 ⟨rfl, b2⟩; clear q2; have hx2 := (hx.step (((Below.refl _ _).alloc (Nat.le_refl _) _).alloc (by simp) _)).step b2; clear b2)
    go_roundw
    case rel =>
      refine ⟨k + 1, by omega, by go_num, ?_, hx2⟩
      rw [HN.out, ← HT.out, ← HD.out]
      exact congrArg Value.string (ba_app3 T D [10])
    case measure => simp [intOf]; omega
  obtain rfl : k = p.wires.length := by omega
  have hki : decide ((p.wires.length : Int) < (p.wires.length : Int)) = false := decide_eq_false (by omega)
  rw [← txC_zero]
  go_wp2
  rename World => wp
  go_loopw [3, 8] (fun s i wr => ∃ k : Nat, k ≤ p.code.length ∧ i = .int .i64 k ∧ s = .string ⟨(txC p k).toArray⟩ ∧ Bx w wr (.slice ca p.code.length cc) p.ticks (.slice sa p.spans.length sc) (.slice wa p.wires.length wc)) (fun _ i _ => p.code.length - (intOf i).toNat)
  case atStart => exact ⟨0, Nat.zero_le _, rfl, rfl, hx⟩
  case round =>
  clear hx k3 hki hTl hkl hk
  obtain ⟨k, hk, rfl, rfl, hx⟩ := hrel
  have k0 := hx.c0
  have hTl := HLN.out.2.2.2 k
  by_cases hkl : k < p.code.length
  · have hki : (k : Int) < (p.code.length : Int) := by omega
    obtain ⟨b, off, u, n, g, c, rfl, hlt, hy, d0, hn, ho⟩ := HP.out.code.at hkl
    replace d0 := (hx.below.cell (p := ⟨b, _, none⟩) hlt).trans d0
    have hcc := HM.out.code _ (List.mem_of_getElem? hy)
    have HN : Hid (txC p (k + 1) = txC p k ++ ([114, 111, 111, 109, 10] ++ textB c)) := txC_next hy
    have q2 := codetext_any _ c wr (ho.all hx.below) hcc
    have hl1 : (textB c).length ≤ 1000 := by
      obtain ⟨_, z1, z2⟩ := chk_zero hcc
      have := text_le (l := c) (fun o ho => Or.inr (by have := ok3_small (by omega) (z2 o ho); omega))
      omega
    obtain ⟨D, hD⟩ : ∃ D, D = textB c := ⟨_, rfl⟩
    rw [← hD] at q2 hl1
    have HD : Hid (D = textB c) := hD
    obtain ⟨T, hT⟩ : ∃ T, T = txC p k := ⟨_, rfl⟩
    rw [← hT] at hTl ⊢
    have HT : Hid (T = txC p k) := hT
    clear hD hT hy hcc ho hn
    go_wp2_with (go_at_call 23; refine q2.mono ?_; rintro e w2 ⟨rfl, b2⟩; clear q2)
    go_roundw
    case rel =>
      refine ⟨k + 1, by omega, by go_num, ?_, hx.step b2⟩
      rw [HN.out, ← HT.out, ← HD.out]
      exact congrArg Value.string (ba_app3 T [114, 111, 111, 109, 10] D)
    case measure => simp [intOf]; omega
  obtain rfl : k = p.code.length := by omega
  have hki : decide ((p.code.length : Int) < (p.code.length : Int)) = false := decide_eq_false (by omega)
  rw [txC_all]
  rw [txC_all] at hTl
  go_wp2
  go_ret
  exact ⟨rfl, hx.below⟩
end Go.Proofs.YtamnfadngbbaeacGreatDoor
