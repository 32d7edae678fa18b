/-
  frameref2.ReadEvents: a text as events, by the document.
-/
import Derived.Test.YtfconbblnmbnpahGreatDoorJb3
import Derived.Test.YtfconbblnmbnpahGreatDoorREvents
import Derived.Test.YtfconbblnmbnpahGreatDoorJb2
import Derived.Test.YtfconbblnmbnpahGreatDoorJb1
import Derived.Deep.CutRange
import Derived.RangeFuncNested
namespace Go.Proofs.YtfconbblnmbnpahGreatDoor
open Go.RowKit

/-- A word of a line, as a number: the second may be '-'. -/
def optW (ws : List (List UInt8)) (j : Nat) : Option Int := if j = 1 then rmOf (ws.getD j []) else numB7 (ws.getD j [])
theorem evOf1_yes {u : List UInt8} {ws : List (List UInt8)} (hc : cutB 32 u = ws) (hl : ws.length = 4) {g : Nat → Int} (h : ∀ j, j < 4 → optW ws j = some (g j)) : evOf1 u = some (g 0, g 1, g 2, g 3) := by
  match ws, hl with
  | [a, b, c, d], _ =>
    unfold evOf1
    rw [hc]
    have h0 : numB7 a = some (g 0) := by simpa [optW] using h 0 (by omega)
    have h1 : rmOf b = some (g 1) := by simpa [optW] using h 1 (by omega)
    have h2 : numB7 c = some (g 2) := by simpa [optW] using h 2 (by omega)
    have h3 : numB7 d = some (g 3) := by simpa [optW] using h 3 (by omega)
    simp only
    rw [h0, h1, h2, h3]
    rfl
theorem evOf1_bad {u : List UInt8} {ws : List (List UInt8)} (hc : cutB 32 u = ws) {j : Nat} (hj : j < 4) (h : optW ws j = none) : evOf1 u = none := by
  unfold evOf1
  rw [hc]
  split
  · rename_i a b c d
    match j, hj with
    | 0, _ => have h0 : numB7 a = none := by simpa [optW] using h
              rw [h0]; rfl
    | 1, _ => have h0 : rmOf b = none := by simpa [optW] using h
              rw [h0]; cases numB7 a <;> rfl
    | 2, _ => have h0 : numB7 c = none := by simpa [optW] using h
              rw [h0]; cases numB7 a <;> cases rmOf b <;> rfl
    | 3, _ => have h0 : numB7 d = none := by simpa [optW] using h
              rw [h0]; cases numB7 a <;> cases rmOf b <;> cases numB7 c <;> rfl
  · rfl
theorem evOf1_len {u : List UInt8} {ws : List (List UInt8)} (hc : cutB 32 u = ws) (hl : ws.length ≠ 4) : evOf1 u = none := by
  unfold evOf1
  rw [hc]
  split
  · exact absurd rfl hl
  · rfl
theorem evsOf_len : ∀ {ps : List (List UInt8)} {l : List W4}, evsOf ps = some l → l.length = ps.length := fun h => by
  rw [← evs_back h, List.length_map]
theorem ret_ev {u v : Value} {a b : Int} (h1 : u = v) (h2 : a = b) : Ending.returned (.tuple #[u, .int .i64 a]) = .returned (.tuple #[v, .int .i64 b]) := by rw [h1, h2]
set_option maxRecDepth 100000 in
set_option maxHeartbeats 4000000 in
theorem rreadev_open (t : ByteArray) (ps : List (List UInt8)) (q : List UInt8) (w : World) (hs : t.size ≤ 1099511627776) (hc : cutB 10 t.data.toList = ps ++ [q]) (hq : q ≠ []) :
    Calls Tryz.prog 19 #[.string t] w fun e w' => e = .returned (.tuple #[.slice none 0 0, .int .i64 2]) ∧ Below w.heap.size w w' := by
  have hcut := rcut_text t ps q w hs hc
  have hlen : ps.length ≤ 1099511627776 := by
    have := (cutGo_len 10 t.data.toList []).2
    rw [show cutGo 10 [] t.data.toList = ps ++ [q] from hc] at this
    simp at this
    omega
  have hne : (q == []) = false := by simpa using hq
  clear hc hq
  go_enter Tryz.func19, Tryz.ntmps19
  go_wp2_with (go_at_call 45; refine hcut.mono ?_; rintro e w1 ⟨⟨g, cap, rfl, hg, hgq, hgc⟩, b1⟩; clear hcut hgc)
  go_ret2
  exact ⟨rfl, b1⟩
set_option maxRecDepth 100000 in
set_option maxHeartbeats 16000000 in
theorem rreadev_shut (t : ByteArray) (ps : List (List UInt8)) (w : World) (hs : t.size ≤ 1099511627776) (hc : cutB 10 t.data.toList = ps ++ [[]]) :
    Calls Tryz.prog 19 #[.string t] w fun e w' => ∃ u, e = .returned (.tuple #[u, .int .i64 (evR (evsOf ps)).2]) ∧ Wrs w' u (evR (evsOf ps)).1 ∧ Below w.heap.size w w' := by
  have hcut := rcut_text t ps [] w hs hc
  have hlen : ps.length ≤ 1099511627776 := by
    have := (cutGo_len 10 t.data.toList []).2
    rw [show cutGo 10 [] t.data.toList = ps ++ [[]] from hc] at this
    simp at this
    omega
  have HP : Hid (∀ u ∈ ps, (⟨u.toArray⟩ : ByteArray).size ≤ 1099511627776) := fun u hu => by
    have := piece_len t.data.toList [] u (by rw [show cutGo 10 [] t.data.toList = ps ++ [[]] from hc]; simp [hu])
    rw [ba_size]
    simp at this
    omega
  have HN : Hid (evsOf ps = none → evR (evsOf ps) = ([], 2)) := fun h => by rw [h]; rfl
  have HV : Hid (∀ (v : Value) (es : List W4) (W : World), Wrs W v es → Calls Tryz.prog 13 #[v] W fun e w' => e = .returned (.int .i64 (evchk es)) ∧ Below W.heap.size W w') := fun v es W h => revents_any es v W h
  have hne : (([] : List UInt8) == []) = true := rfl
  obtain ⟨ii, hi, hz0, hz1, hz2⟩ := info_parts infoEv
  clear hc hs
  go_enter Tryz.func19, Tryz.ntmps19
  go_upto_region 6 with (go_at_call 45; refine hcut.mono ?_; rintro e w1 ⟨⟨g, cap, rfl, hg, hgq, hgc⟩, b1⟩; clear hcut)
  have HG : Hid (∀ (i : Nat) p, ps[i]? = some p → ∀ W, Below w1.heap.size w1 W → W.cell? ⟨g, i, none⟩ = some (.string ⟨p.toArray⟩)) := fun i p hp W hb => (hb.cell (p := ⟨g, i, none⟩) hg).trans (hgc i p hp)
  have HB1 : Hid (Below w.heap.size w w1) := b1
  clear hgc hgq b1
  go_loopw [5, 6] (fun s5 s6 wr => ∃ (i : Nat) (es : List W4), i ≤ ps.length ∧ s6 = .int .i64 i ∧ Hid (evsOf (ps.take i) = some es) ∧ wr.ownsRow w1.heap.size 32 4 s5 es.length (wrCells es) ∧ es.length ≤ i ∧ Below w1.heap.size w1 wr) (fun _ s6 _ => ps.length - (intOf s6).toNat)
  case atStart => exact ⟨0, [], Nat.zero_le _, rfl, rfl, World.ownsRow_nil _ _ _ _, Nat.zero_le _, Below.refl _ _⟩
  case round =>
    rename World => wo
    obtain ⟨i, es, hile, rfl, HE, own, hel, hbo⟩ := hrel
    by_cases hil : i < ps.length
    · have hii : (i : Int) < (ps.length : Int) := by omega
      have hii' : (i : Int) < (ps.length : Int) + 1 := by omega
      obtain ⟨u, hu⟩ : ∃ u, ps[i]? = some u := ⟨ps[i], List.getElem?_eq_getElem hil⟩
      have HU : Hid (ps[i]? = some u) := hu
      have c0 := HG.out i u hu wo hbo
      have hul := HP.out u (List.mem_of_getElem? hu)
      have hcl := cut_any ⟨u.toArray⟩ 32 32 rfl wo hul
      rw [show (⟨u.toArray⟩ : ByteArray).data.toList = u by simp] at hcl
      obtain ⟨ws, hws⟩ : ∃ ws, cutB 32 u = ws := ⟨_, rfl⟩
      have HWS : Hid (cutB 32 u = ws) := hws
      have hwl : 1 ≤ ws.length := by rw [← hws]; exact (cutGo_len 32 u []).1
      have HBad : Hid (evOf1 u = none → evR (evsOf ps) = ([], 2)) := fun h => by
        rw [numsOf_split HU.out, evsOf_bad h]
        rfl
      have hcl2 : Calls Tryz.prog 45 #[.string ⟨u.toArray⟩, .int .u8 32] wo fun e w' => ∃ sg sc, e = .returned (.slice (some ⟨sg, 0, none⟩) ws.length sc) ∧ sg < w'.heap.size ∧ Hid (∀ (j : Nat) p, ws[j]? = some p → w'.cell? ⟨sg, j, none⟩ = some (.string ⟨p.toArray⟩)) ∧ Below wo.heap.size wo w' := by
        refine hcl.mono ?_
        rintro e w' ⟨v, rfl, ho, hb⟩
        rw [hws] at ho
        obtain ⟨sg, sc, rfl, h1, h2⟩ := strs_of_own ho hwl
        exact ⟨sg, sc, rfl, h1, h2, hb⟩
      clear hu hcl hws hwl
      by_cases hw4 : ws.length = 4
      · have HL4 : Hid (ws.length = 4) := hw4
        rw [hw4] at hcl2
        clear hw4
        go_upto_region 11 with (go_at_call 45; refine hcl2.mono ?_; rintro e w2 ⟨sg, sc, rfl, hsg, HSC, b2⟩; clear hcl2)
        have hb2 := hbo.trans (b2.mono hbo.size)
        have own2 := own_below own b2 (Nat.le_refl _)
        have hbA : Below w2.heap.size w2 (w2.alloc (.cells #[.int .i64 0, .int .i64 0, .int .i64 0, .int .i64 0] 105)) := (Below.refl _ _).alloc (Nat.le_refl _) _
        have hV : V4 (w2.alloc (.cells #[.int .i64 0, .int .i64 0, .int .i64 0, .int .i64 0] 105)) w2.heap.size (fun _ => 0) := World.alloc_heap_new _ _
        go_upto_region 12 with fail
        generalize w2.alloc (.cells #[.int .i64 0, .int .i64 0, .int .i64 0, .int .i64 0] 105) = w3 at hbA hV ⊢
        clear own c0
        go_upto_region 13 with fail
        go_loopw [9] (fun s9 wr => ∃ (k : Nat) (f : Nat → Int), k ≤ 4 ∧ s9 = .int .i64 k ∧ V4 wr w2.heap.size f ∧ Hid (∀ j, j < k → optW ws j = some (f j)) ∧ Below w2.heap.size w2 wr) (fun s9 _ => 4 - (intOf s9).toNat)
        case atStart => exact ⟨0, _, Nat.zero_le _, rfl, hV, fun j hj => by omega, hbA⟩
        case round =>
          clear hbA hV
          obtain ⟨k, f, hk, rfl, hV, HF, hbw⟩ := hrel
          by_cases hk4 : k < 4
          · have hki : (k : Int) < 4 := by omega
            obtain ⟨p, hp⟩ : ∃ p, ws[k]? = some p := ⟨ws[k]'(by rw [HL4.out]; exact hk4), List.getElem?_eq_getElem _⟩
            have c1 := (hbw.cell (p := ⟨sg, k, none⟩) hsg).trans (HSC.out k p hp)
            have HOp : Hid (optW ws k = if k = 1 then rmOf p else numB7 p) := by
              show _ = _
              unfold optW
              rw [show ws.getD k [] = p by simp [List.getD, hp]]
            have vc := hV.at hk4
            have vf := hV.fz k
            have HV4 : Hid (V4 wr w2.heap.size f) := hV
            clear hp hV
            by_cases hdash : k = 1 ∧ p = [45]
            · obtain ⟨rfl, rfl⟩ := hdash
              have HO2 : Hid (optW ws 1 = some (-1)) := by show _ = _; rw [HOp.out]; rfl
              have hdb : (([45] : List UInt8) == [45]) = true := rfl
              rw [show ((1 : Nat) : Int) = 1 from rfl]
              go_wp2
              go_roundw
              case rel => exact ⟨2, _, by omega, by go_num, HV4.out.set (by omega) (-1), fun j hj => (by
                by_cases e : j = 1
                · subst e; simp; exact HO2.out
                · simp only [e, if_false]; exact HF.out j (by omega)), hbw.setCell (p := ⟨w2.heap.size, 1, none⟩) (Nat.le_refl _) _⟩
              case measure => simp [intOf]
            · have HO2 : Hid (optW ws k = numB7 p) := by
                show _ = _
                rw [HOp.out]
                split
                · rename_i h1
                  unfold rmOf
                  rw [if_neg (fun h2 => hdash ⟨h1, h2⟩)]
                · rfl
              have q1 := refnum7_any ⟨p.toArray⟩ wr
              rw [show (⟨p.toArray⟩ : ByteArray).data.toList = p by simp] at q1
              unfold numV7 at q1
              have hcase : (((k : Int) == 1) = false ∧ (k == 1) = false) ∨ (k = 1 ∧ (p == [45]) = false) := by
                by_cases h1 : k = 1
                · exact Or.inr ⟨h1, by simpa using fun h2 => hdash ⟨h1, h2⟩⟩
                · exact Or.inl ⟨by simp; omega, by simpa using h1⟩
              clear hdash HOp
              cases hn : numB7 p with
              | none =>
                rw [hn] at q1
                simp only [Option.getD_none, Option.isSome_none] at q1
                have HB2 : Hid (evR (evsOf ps) = ([], 2)) := HBad.out (evOf1_bad HWS.out hk4 (by rw [HO2.out, hn]))
                clear hn
                rcases hcase with ⟨h1, hkb⟩ | ⟨rfl, h2⟩
                · go_wp2_with (go_at_call 46; refine q1.mono ?_; rintro e w5 ⟨rfl, b5⟩; clear q1)
                  go_ret2
                  exact ⟨_, ret_ev rfl (by rw [HB2.out]), by rw [HB2.out]; exact Or.inl ⟨rfl, _, _, rfl⟩, HB1.out.trans ((hb2.trans ((hbw.trans (b5.mono hbw.size)).mono hb2.size)).mono HB1.out.size)⟩
                · rw [show ((1 : Nat) : Int) = 1 from rfl]
                  go_wp2_with (go_at_call 46; refine q1.mono ?_; rintro e w5 ⟨rfl, b5⟩; clear q1)
                  go_ret2
                  exact ⟨_, ret_ev rfl (by rw [HB2.out]), by rw [HB2.out]; exact Or.inl ⟨rfl, _, _, rfl⟩, HB1.out.trans ((hb2.trans ((hbw.trans (b5.mono hbw.size)).mono hb2.size)).mono HB1.out.size)⟩
              | some z =>
                rw [hn] at q1
                simp only [Option.getD_some, Option.isSome_some] at q1
                have HZ : Hid (optW ws k = some z) := by show _ = _; rw [HO2.out, hn]
                clear hn
                have HQ : Hid (∀ w5, Below wr.heap.size wr w5 → w5.cell? ⟨w2.heap.size, k, none⟩ = some (.int .i64 (f k)) ∧ w5.frozen? ⟨w2.heap.size, k, none⟩ = false ∧ V4 w5 w2.heap.size f) := fun w5 b5 => ⟨(b5.cell (p := ⟨w2.heap.size, k, none⟩) HV4.out.lt).trans (HV4.out.at hk4), (b5.frozen (p := ⟨w2.heap.size, k, none⟩) HV4.out.lt).trans (HV4.out.fz k), (b5.block _ HV4.out.lt).trans HV4.out⟩
                clear vc vf
                rcases hcase with ⟨h1, hkb⟩ | ⟨rfl, h2⟩
                · go_wp2_with (go_at_call 46; refine q1.mono ?_; rintro e w5 ⟨rfl, b5⟩; clear q1; obtain ⟨vc, vf, hV5⟩ := HQ.out w5 b5; have HV5 : Hid (V4 w5 w2.heap.size f) := hV5; clear hV5)
                  go_roundw
                  case rel => exact ⟨k + 1, _, by omega, by go_num, HV5.out.set hk4 z, fun j hj => (by
                    by_cases e : j = k
                    · subst e; simp; exact HZ.out
                    · simp only [e, if_false]; exact HF.out j (by omega)), (hbw.trans (b5.mono hbw.size)).setCell (p := ⟨w2.heap.size, k, none⟩) (Nat.le_refl _) _⟩
                  case measure => simp [intOf]; omega
                · rw [show ((1 : Nat) : Int) = 1 from rfl]
                  go_wp2_with (go_at_call 46; refine q1.mono ?_; rintro e w5 ⟨rfl, b5⟩; clear q1; obtain ⟨vc, vf, hV5⟩ := HQ.out w5 b5; have HV5 : Hid (V4 w5 w2.heap.size f) := hV5; clear hV5)
                  go_roundw
                  case rel => exact ⟨2, _, by omega, by go_num, HV5.out.set (by omega) z, fun j hj => (by
                    by_cases e : j = 1
                    · subst e; simp; exact HZ.out
                    · simp only [e, if_false]; exact HF.out j (by omega)), (hbw.trans (b5.mono hbw.size)).setCell (p := ⟨w2.heap.size, 1, none⟩) (Nat.le_refl _) _⟩
                  case measure => simp [intOf]
          · have hke : k = 4 := by omega
            subst hke
            have hkf : decide ((((4 : Nat) : Int)) < 4) = false := decide_eq_false (by omega)
            have HY : Hid (evsOf (ps.take (i + 1)) = some (es ++ [(f 0, f 1, f 2, f 3)])) := by
              show _ = _
              rw [take_at HU.out]
              exact evsOf_snoc HE.out (evOf1_yes HWS.out HL4.out HF.out)
            obtain ⟨v0, v1, v2, v3⟩ := hV.cs
            have own3 := own_below own2 hbw (Nat.le_refl _)
            have hsz := hb2.size
            have hsw := hbw.size
            generalize f 0 = x0 at v0 HY
            generalize f 1 = x1 at v1 HY
            generalize f 2 = x2 at v2 HY
            generalize f 3 = x3 at v3 HY
            clear hV
            go_wp2_with (at_builtin; refine wpList_append_own _ rfl _ _ 27 rfl w1.heap.size 32 ii _ 4 32 Tryz.underlying27 hi hz0 hz1 hz2 rfl (by decide) _ _ _ rfl (own3.alloc _) ⟨wr.heap.size, 0, none⟩ 1 1 [.int .i64 x0, .int .i64 x1, .int .i64 x2, .int .i64 x3] rfl rfl ?c1A ?c2A ?c3A ?c4A ?c5A ?_)
            case c1A => exact wr_new rfl _ _ _ _ _
            case c2A => exact four_one _ _ _ _
            case c3A => unfold maxLen; omega
            case c4A => omega
            case c5A => simp; omega
            intro vv w6 own6 hg6 _
            have hb6 : Below w1.heap.size w1 w6 := ((hb2.trans (hbw.mono hb2.size)).alloc (by omega) _).grown hg6 (by simp; omega) (fun j hj => (own3.lt j hj).1)
            have HO : Hid (w6.ownsRow w1.heap.size 32 4 vv (es ++ [(x0, x1, x2, x3)]).length (wrCells (es ++ [(x0, x1, x2, x3)]))) := by
              show World.ownsRow _ _ _ _ _ _ _
              rw [wrCells_snoc, List.length_append]
              exact own6
            clear own2 own3 own6 hg6
            go_wp2
            go_roundw
            case rel => exact ⟨i + 1, es ++ [(x0, x1, x2, x3)], by omega, by go_num, HY.out, HO.out, by simp; omega, hb6⟩
            case measure => simp [intOf]; omega
      · have HB2 : Hid (evR (evsOf ps) = ([], 2)) := HBad.out (evOf1_len HWS.out hw4)
        have d1 : ((ws.length : Int) == 4) = false := by simp; omega
        have d2 : (ws.length == 4) = false := by simpa using hw4
        go_wp2_with (go_at_call 45; refine hcl2.mono ?_; rintro e w2 ⟨sg, sc, rfl, hsg, HSC, b2⟩; clear hcl2)
        go_ret2
        exact ⟨_, ret_ev rfl (by rw [HB2.out]), by rw [HB2.out]; exact Or.inl ⟨rfl, _, _, rfl⟩, HB1.out.trans ((hbo.trans (b2.mono hbo.size)).mono HB1.out.size)⟩
    · have hie : i = ps.length := by omega
      subst hie
      have hif : decide (((ps.length : Nat) : Int) < ((ps.length : Nat) : Int)) = false := decide_eq_false (by omega)
      have HEE : Hid (evsOf ps = some es) := by have := HE.out; rwa [List.take_length] at this
      have hW : Wrs wo u5 es := evs_of_own own
      have q1 := HV.out u5 es wo hW
      obtain ⟨va, vk, hvf⟩ := own4_form own
      rw [hvf] at q1 hW ⊢
      by_cases hz : evchk es = 0
      · have HR : Hid (evR (evsOf ps) = (es, 0)) := by show _ = _; rw [HEE.out]; unfold evR; simp only; rw [if_pos hz]
        rw [hz] at q1
        go_wp2_with (go_at_call 13; refine q1.mono ?_; rintro e w2 ⟨rfl, b2⟩; clear q1)
        go_ret2
        exact ⟨_, ret_ev rfl (by rw [HR.out]), by rw [HR.out]; exact hW.all b2, HB1.out.trans ((hbo.trans (b2.mono hbo.size)).mono HB1.out.size)⟩
      · have HR : Hid (evR (evsOf ps) = ([], evchk es)) := by show _ = _; rw [HEE.out]; unfold evR; simp only; rw [if_neg hz]
        have d1 : (evchk es == 0) = false := by simpa using hz
        generalize evchk es = ec at q1 HR d1
        go_wp2_with (go_at_call 13; refine q1.mono ?_; rintro e w2 ⟨rfl, b2⟩; clear q1)
        go_ret2
        exact ⟨_, ret_ev rfl (by rw [HR.out]), by rw [HR.out]; exact Or.inl ⟨rfl, _, _, rfl⟩, HB1.out.trans ((hbo.trans (b2.mono hbo.size)).mono HB1.out.size)⟩
theorem rreadev_any (t : ByteArray) (w : World) (hs : t.size ≤ 1099511627776) :
    Calls Tryz.prog 19 #[.string t] w fun e w' => ∃ u, e = .returned (.tuple #[u, .int .i64 (evP t.data.toList).2]) ∧ Wrs w' u (evP t.data.toList).1 ∧ Below w.heap.size w w' := by
  have hne : cutB 10 t.data.toList ≠ [] := fun e => by
    have := (cutGo_len 10 t.data.toList []).1
    rw [show cutGo 10 [] t.data.toList = [] from e] at this
    simp at this
  obtain ⟨ps, q, hc⟩ : ∃ ps q, cutB 10 t.data.toList = ps ++ [q] := by
    rcases List.eq_nil_or_concat (cutB 10 t.data.toList) with h | ⟨ps, q, h⟩
    · exact absurd h hne
    · exact ⟨ps, q, by rw [h, List.concat_eq_append]⟩
  by_cases hq : q = []
  · subst hq
    rw [evP_shut hc]
    exact rreadev_shut t ps w hs hc
  · rw [evP_open hc hq]
    refine (rreadev_open t ps q w hs hc hq).mono ?_
    rintro e w' ⟨rfl, hb⟩
    exact ⟨_, rfl, Or.inl ⟨rfl, _, _, rfl⟩, hb⟩
end Go.Proofs.YtfconbblnmbnpahGreatDoor
