/-
  frameref2.Sees: what a room sees of the document's kernel.
-/
import Derived.Test.YtlegpedmfpbaiadGreatDoorJa2
import Derived.Test.YtlegpedmfpbaiadGreatDoorJa1
import Derived.Deep.RegionLaw
import Derived.Deep.CutRange
namespace Go.Proofs.YtlegpedmfpbaiadGreatDoor
open Go.RowKit

def hdOf (l : LnD) : List Int × Int := (l.xs, l.ls)
theorem sees_take (ls : List LnD) (r : Int) (n : Nat) (l : LnD) (h : ls[n]? = some l) : (((ls.take (n + 1)).filter (atR r)).map hdOf) = (((ls.take n).filter (atR r)).map hdOf) ++ (if atR r l = true then [hdOf l] else []) := by
  rw [List.take_add_one, h, Option.toList_some, List.filter_append, List.map_append]
  cases hb : atR r l <;> simp [hb]
set_option maxRecDepth 100000 in
set_option maxHeartbeats 8000000 in
theorem rsees_any (p : PD) (vc vs vw : Value) (k : KD) (a : KW) (base : Nat) (r : Int) (w : World) (h : RK w base p vc vs vw k a) (hk : KOk p k) (hp : plchk p = 0) :
    Calls Tryz.prog 20 #[.pointer (some ⟨a.kb, 0, none⟩), .int .i64 r] w fun e w' => ∃ v, e = .returned v ∧ HdL w' v (seesK k r) ∧ Below w.heap.size w w' := by
  obtain ⟨jj, hj, hy0, hy1, hy2⟩ := info_parts infoHd
  have H : Hid (RK w base p vc vs vw k a) := h
  have hkb : a.kb < w.heap.size := Nat.lt_of_lt_of_le h.lt.1 h.le
  have hw12 : k.lines.length ≤ 12 := by rw [hk.ll]; exact (wschk_ok (plchk_zero hp).2.2.2.1).1
  have hlv : ∃ ao cap, a.lv = .slice ao k.lines.length cap := by
    rcases h.lv with ⟨h1, h2⟩ | ⟨cap, h1, _⟩
    · exact ⟨none, 0, by rw [h2, h1]; rfl⟩
    · exact ⟨_, cap, h1⟩
  obtain ⟨lo, lc, hlv⟩ := hlv
  clear h
  go_enter Tryz.func20, Tryz.ntmps20
  go_wp2
  go_loopw [5, 6] (fun v i wr => ∃ (n : Nat) (l : List (Value × Int)), n ≤ k.lines.length ∧ i = .int .i64 n ∧ HdR w.heap.size wr v l (((k.lines.take n).filter (atR r)).map hdOf) ∧ Below w.heap.size w wr) (fun _ i _ => k.lines.length - (intOf i).toNat)
  case atStart => exact ⟨0, [], Nat.zero_le _, rfl, HdR.nil _ _, Below.refl _ _⟩
  case round =>
    obtain ⟨n, l, hn, rfl, hrow, hbw⟩ := hrel
    have D := H.out.all hbw
    have c5 := D.c5
    rw [hlv] at c5
    obtain ⟨vo, vn, vk, rfl⟩ := own_form hrow.own
    by_cases hnl : n < k.lines.length
    · have hni : (n : Int) < (k.lines.length : Int) := by omega
      obtain ⟨lb, lu, lcap, ln, hl, hlb, hlu, hlv', hlc, hlp, hlm, hRl⟩ := D.at hnl
      obtain ⟨x, hx⟩ : ∃ x, p.wires[n]? = some x := ⟨_, List.getElem?_eq_getElem (by rw [← hk.ll]; exact hnl)⟩
      have hxw := (hk.lines n ln x hl hx).w
      obtain ⟨f0, f1⟩ := D.ft n lb x hlb hx
      rw [← hxw] at f0 f1
      rw [hlv'] at hlv
      rw [← hlv] at c5
      obtain ⟨ua, uc, rfl⟩ := hRl.rd.form
      obtain ⟨_, _, q4, q5, _, _⟩ := hRl.c
      have HT := sees_take k.lines r n ln hl
      have hul : ∀ g, (Value.slice ua ln.xs.length uc).ownBlock = some g → g < w.heap.size := fun g hg => by
        have := (H.out.rows _ (List.mem_of_getElem? hlu) g hg).2
        exact this
      have hown0 := hrow.own
      have HRw : Hid (HdR w.heap.size wr (.slice vo vn vk) l (((k.lines.take n).filter (atR r)).map hdOf)) := hrow
      have HRd : Hid (Rd wr (.slice ua ln.xs.length uc) ln.xs) := hRl.rd
      have hsw := hbw.size
      by_cases ha : atR r ln = true
      · rw [if_pos ha] at HT
        have HX : Hid (((k.lines.take (n + 1)).filter (atR r)).map hdOf = ((k.lines.take n).filter (atR r)).map hdOf ++ [hdOf ln]) := HT
        have hl12 : l.length + 1 ≤ 12 := by
          have h1 := hrow.len
          have h2 : (((k.lines.take n).filter (atR r)).map hdOf).length ≤ n := by
            rw [List.length_map]
            exact Nat.le_trans (List.length_filter_le _ _) (by rw [List.length_take]; omega)
          omega
        have hor : ln.w.1 = r ∨ (ln.w.1 ≠ r ∧ ln.w.2.1 = r) := by
          unfold atR at ha
          simp only [Bool.or_eq_true, decide_eq_true_eq] at ha
          by_cases e : ln.w.1 = r
          · exact Or.inl e
          · exact Or.inr ⟨e, ha.resolve_left e⟩
        clear HT hrow ha hRl hl hx hxw D
        have hfin : ∀ (v1 : Value) (w8 : World), w8.ownsRow w.heap.size 54 2 v1 (l.length + 1) (hdCells l ++ [.slice ua ln.xs.length uc, .int .i64 ln.ls]) → (wr.alloc (.cells #[.slice ua ln.xs.length uc, .int .i64 ln.ls] 54)).grownBy w8 (Value.slice vo vn vk).ownBlock → (∀ g, v1.ownBlock = some g → (Value.slice vo vn vk).ownBlock = some g ∨ wr.heap.size + 1 ≤ g) → HdR w.heap.size w8 v1 (l ++ [(.slice ua ln.xs.length uc, ln.ls)]) (((k.lines.take (n + 1)).filter (atR r)).map hdOf) ∧ Below w.heap.size w w8 := fun v1 w8 o1 o2 o3 => by
          rw [HX.out]
          refine ⟨HRw.out.more (y := hdOf ln) HRd.out (fun g hg => ⟨Nat.lt_of_lt_of_le (hul g hg) hsw, fun e => ?_⟩) o2 o1 o3, ?_⟩
          · have := (HRw.out.own.lt g e).1
            have := hul g hg
            omega
          · exact (hbw.alloc hbw.size _).grown o2 (by simp; omega) (fun j hj => (HRw.out.own.lt j hj).1)
        have HFin := hfin
        have HF : Hid _ := HFin
        clear hfin HFin
        rcases hor with e | ⟨e1, e2⟩
        · rw [e] at f0
          go_wp2_with (at_builtin; refine wpList_append_at _ rfl _ _ 69 rfl w.heap.size 54 jj _ 2 32 Tryz.underlying69 hj hy0 hy1 hy2 rfl (by decide) _ _ _ rfl (hown0.alloc _) ⟨wr.heap.size, 0, none⟩ 1 1 [.slice ua ln.xs.length uc, .int .i64 ln.ls] rfl rfl ?c1A ?c2A ?c3A ?c4A ?c5A ?_)
          case c1A => exact hd_new rfl _ _ _
          case c2A => intro u hu; simp at hu; rcases hu with rfl | rfl <;> rfl
          case c3A => unfold maxLen; omega
          case c4A => omega
          case c5A => simp; omega
          intro v1 w8 own8 hg8 hnw8
          have HQ : Hid _ := HF.out v1 w8 own8 hg8 (fun g hg => by have := hnw8 g hg; simpa using this)
          obtain ⟨g8, cap8, rfl⟩ := own_succ own8
          clear own8 hg8 hnw8 hown0
          go_wp2
          go_roundw
          case rel => exact ⟨n + 1, _, by omega, by go_num, HQ.out.1, HQ.out.2⟩
          case measure => simp [intOf]; omega
        · have hq : (ln.w.1 == r) = false := by simpa using e1
          rw [e2] at f1
          go_wp2_with (at_builtin; refine wpList_append_at _ rfl _ _ 69 rfl w.heap.size 54 jj _ 2 32 Tryz.underlying69 hj hy0 hy1 hy2 rfl (by decide) _ _ _ rfl (hown0.alloc _) ⟨wr.heap.size, 0, none⟩ 1 1 [.slice ua ln.xs.length uc, .int .i64 ln.ls] rfl rfl ?c1A ?c2A ?c3A ?c4A ?c5A ?_)
          case c1A => exact hd_new rfl _ _ _
          case c2A => intro u hu; simp at hu; rcases hu with rfl | rfl <;> rfl
          case c3A => unfold maxLen; omega
          case c4A => omega
          case c5A => simp; omega
          intro v1 w8 own8 hg8 hnw8
          have HQ : Hid _ := HF.out v1 w8 own8 hg8 (fun g hg => by have := hnw8 g hg; simpa using this)
          obtain ⟨g8, cap8, rfl⟩ := own_succ own8
          clear own8 hg8 hnw8 hown0
          go_wp2
          go_roundw
          case rel => exact ⟨n + 1, _, by omega, by go_num, HQ.out.1, HQ.out.2⟩
          case measure => simp [intOf]; omega
      · rw [if_neg ha, List.append_nil] at HT
        have HX : Hid (((k.lines.take (n + 1)).filter (atR r)).map hdOf = ((k.lines.take n).filter (atR r)).map hdOf) := HT
        unfold atR at ha
        simp only [Bool.or_eq_true, decide_eq_true_eq, not_or] at ha
        have hq1 : (ln.w.1 == r) = false := by simpa using ha.1
        have hq2 : (ln.w.2.1 == r) = false := by simpa using ha.2
        clear HT hrow ha hRl hl hx hxw D
        go_wp2
        go_roundw
        case rel => exact ⟨n + 1, l, by omega, by go_num, by rw [HX.out]; exact HRw.out, hbw⟩
        case measure => simp [intOf]; omega
    · obtain rfl : n = k.lines.length := by omega
      have hq : decide ((k.lines.length : Int) < (k.lines.length : Int)) = false := decide_eq_false (by omega)
      have hq' : decide (k.lines.length < k.lines.length) = false := decide_eq_false (by omega)
      have HRw : Hid (HdL wr (.slice vo vn vk) (seesK k r)) := by
        have := hrow.hdl
        rw [List.take_length] at this
        exact this
      clear hrow D
      go_wp2
      go_ret
      exact ⟨_, rfl, HRw.out, hbw⟩
end Go.Proofs.YtlegpedmfpbaiadGreatDoor
