/-
  sight.around: what each wire of a room holds, over what package kernel does.
-/
import Derived.Test.YteoemcekkcnpladDoorJa12
import Derived.Test.YteoemcekkcnpladDoorJa11
import Derived.Test.YteoemcekkcnpladDoorFrameOwn
import Derived.Deep.RegionLaw
import Derived.Deep.CutRange
namespace Go.Proofs.YteoemcekkcnpladDoor
open Go.RowKit

theorem sees_takeG (ls : List LnD) (r : Int) (n : Nat) (l : LnD) (h : ls[n]? = some l) : (((ls.take (n + 1)).filter (atR r)).map fun l => (l.xs, l.ls)) = (((ls.take n).filter (atR r)).map fun l => (l.xs, l.ls)) ++ (if atR r l = true then [(l.xs, l.ls)] else []) := by
  rw [List.take_add_one, h, Option.toList_some, List.filter_append, List.map_append]
  cases hb : atR r l <;> simp [hb]
/-- What is seen of the first wires. -/
def seesN (k : KD) (r : Int) (n : Nat) : List (List Int × Int) := ((k.lines.take n).filter (atR r)).map fun l => (l.xs, l.ls)
theorem seesN_len (k : KD) (r : Int) (n : Nat) : (seesN k r n).length ≤ n := by
  unfold seesN
  rw [List.length_map]
  exact Nat.le_trans (List.length_filter_le _ _) (by rw [List.length_take]; omega)
/-- A row of what wires hold, all of it laid since. -/
def HdF (B : Nat) (w : World) (v : Value) (xs : List (List Int × Int)) : Prop := ∃ l, HdR B w v l xs ∧ ∀ x ∈ l, ∀ g, x.1.ownBlock = some g → B ≤ g
/-- What is written lies ahead of it. -/
theorem HdF.touch {B : Nat} {W W' : World} {v : Value} {xs : List (List Int × Int)} (h : HdF B W v xs) {M : List Nat} (ht : KTouch M W W') (hM : ∀ m ∈ M, m < B) : HdF B W' v xs := by
  obtain ⟨l, h, hf⟩ := h
  refine ⟨l, ⟨own_block h.own (fun g hg => ht.block g (h.own.lt g hg).2 (fun hm => ?_)), h.len, fun i x y hx hy => ?_, fun x hx g hg => ?_⟩, hf⟩
  · have := hM g hm
    have := (h.own.lt g hg).1
    omega
  · obtain ⟨h1, h2⟩ := h.rd i x y hx hy
    refine ⟨h1.block (fun g hg he => ht.block g hg (fun hm => ?_)) ht.size, h2⟩
    have := hM g hm
    have := hf x (List.mem_of_getElem? hx) g he
    omega
  · obtain ⟨h2, h3⟩ := h.ap x hx g hg
    exact ⟨Nat.lt_of_lt_of_le h2 ht.size, h3⟩
set_option maxRecDepth 100000 in
set_option maxHeartbeats 8000000 in
theorem saround_any {G : World → Prop} (C : KerC G) (CW : KerWire C) {w0 W : World} {p : PD} {vc vs vw : Value} {k : KD} {kb : Nat} {F : List Nat} (iw : Value) (r : Int) (h : C.K w0 W p vc vs vw k kb F) (hk : KOk p k) (hp : plchk p = 0) (hW : Wrs W iw p.wires) :
    Calls Tryd.prog 39 #[.pointer (some ⟨kb, 0, none⟩), iw, .int .i64 r] W fun e w' => ∃ ao m cap, e = .returned (.tuple #[.slice ao m cap, .nilIface]) ∧ HdF W.heap.size w' (.slice ao m cap) (seesK k r) ∧ Below W.heap.size W w' := by
  obtain ⟨jj, hj, hy0, hy1, hy2⟩ := info_parts infoHd
  obtain ⟨wa, wcap, rfl⟩ := hW.form
  have H : Hid (∀ wr, Below W.heap.size W wr → C.K w0 wr p vc vs vw k kb F) := fun wr hb => C.frame h (KTouch.of (M := []) hb) (by simp)
  have HW : Hid (Wrs W (.slice wa p.wires.length wcap) p.wires) := hW
  have hw12 : p.wires.length ≤ 12 := (wschk_ok (plchk_zero hp).2.2.2.1).1
  have hll := hk.ll
  clear h hW
  go_enter Tryd.func39, Tryd.ntmps39
  go_wp2
  go_loopw [8, 15] (fun v i wr => ∃ (n : Nat) (l : List (Value × Int)), n ≤ p.wires.length ∧ i = .int .i64 n ∧ HdR W.heap.size wr v l (seesN k r n) ∧ (∀ x ∈ l, ∀ g, x.1.ownBlock = some g → W.heap.size ≤ g) ∧ Below W.heap.size W wr) (fun _ i _ => p.wires.length - (intOf i).toNat)
  case atStart => exact ⟨0, [], Nat.zero_le _, rfl, HdR.nil _ _, fun x hx => (by cases hx), Below.refl _ _⟩
  case round =>
    obtain ⟨n, l, hn, rfl, hrow, hfr0, hbw⟩ := hrel
    have HF0 : Hid (∀ x ∈ l, ∀ g, x.1.ownBlock = some g → W.heap.size ≤ g) := hfr0
    clear hfr0
    obtain ⟨vo, vn, vk, rfl⟩ := own_form hrow.own
    have hsw := hbw.size
    by_cases hnl : n < p.wires.length
    · have hni : (n : Int) < (p.wires.length : Int) := by omega
      obtain ⟨xb, xo, f, t, kd, d, rfl, hxlt, hx, c0, c1, c2, c3⟩ := HW.out.at hnl
      replace c0 := (hbw.cell (p := ⟨xb, _, none⟩) hxlt).trans c0
      replace c1 := (hbw.cell (p := ⟨xb, _, none⟩) hxlt).trans c1
      replace c2 := (hbw.cell (p := ⟨xb, _, none⟩) hxlt).trans c2
      replace c3 := (hbw.cell (p := ⟨xb, _, none⟩) hxlt).trans c3
      obtain ⟨ln, hl⟩ : ∃ ln, k.lines[n]? = some ln := ⟨_, List.getElem?_eq_getElem (by rw [hll]; exact hnl)⟩
      have hlw := (hk.lines n ln _ hl hx).w
      have HT := sees_takeG k.lines r n ln hl
      have hat : atR r ln = (decide (f = r) || decide (t = r)) := by
        unfold atR
        rw [hlw]
      rw [hat] at HT
      have HRw : Hid (HdR W.heap.size wr (.slice vo vn vk) l (seesN k r n)) := hrow
      have hx8 := World.new_ne wr ⟨xb, _, none⟩ c0
      by_cases hor : f = r ∨ (f ≠ r ∧ t = r)
      · have HX : Hid (seesN k r (n + 1) = seesN k r n ++ [(ln.xs, ln.ls)]) := by
          show _ = _
          unfold seesN
          rw [HT, if_pos]
          rcases hor with e | ⟨_, e⟩ <;> simp [e]
        have hl12 : l.length + 1 ≤ 12 := by
          have h1 := hrow.len
          have h2 := seesN_len k r n
          omega
        have hno : noLine k n = false := by
          unfold noLine
          rw [hll, Bool.or_eq_false_iff]
          exact ⟨decide_eq_false (by omega), decide_eq_false (by omega)⟩
        have hlk : lineK k n = ln := by
          unfold lineK
          rw [if_neg (by rw [hno]; decide), Int.toNat_natCast]
          simp [List.getD, hl]
        have HC : Hid (∀ WW, Below wr.heap.size wr WW → Calls Tryd.prog 15 #[.pointer (some ⟨kb, 0, none⟩), .int .i64 n] WW fun e w' => ∃ ao m cu, e = .returned (.tuple #[.agg #[.slice ao m cu, .int .i64 ln.ls], .nilIface]) ∧ Rd w' (.slice ao m cu) ln.xs ∧ (∀ g, (Value.slice ao m cu).ownBlock = some g → WW.heap.size ≤ g ∧ g < w'.heap.size) ∧ Below WW.heap.size WW w') := fun WW hb => by
          have := CW n (H.out WW (hbw.trans (hb.mono hsw))) hk hp
          rw [hlk, hno] at this
          refine this.mono ?_
          rintro e w' ⟨u, rfl, h1, h2, h3⟩
          have hf : ∃ ao m cu, u = .slice ao m cu := by
            rcases h1 with ⟨_, ao, cu, h4⟩ | ⟨g, off, cu, h4, _⟩
            · exact ⟨_, _, _, h4⟩
            · exact ⟨_, _, _, h4⟩
          obtain ⟨ao, m, cu, rfl⟩ := hf
          exact ⟨ao, m, cu, rfl, h1, h2, h3⟩
        clear HT hrow hat hl hx hlw hno hlk
        go_upto_region 5 with fail
        have hA : Below wr.heap.size wr (wr.alloc (.cells #[.int .i64 f, .int .i64 t, .int .i64 kd, .int .i64 d] 23)) := (Below.refl _ _).alloc (Nat.le_refl _) _
        go_cut [15, 29] from 15 to 43 (fun s15 s29 wx => s15 = .int .i64 n ∧ s29 = .bool false ∧ Below wr.heap.size wr wx)
        case first =>
          rcases hor with e | ⟨e1, e2⟩
          · have hq : (f != r) = false := by simp [e]
            go_wp2
            go_meet
            case rel => exact ⟨rfl, rfl, (Below.refl _ _).alloc (Nat.le_refl _) _⟩
          · have hq : (f != r) = true := by simpa using e1
            have hq2 : (t != r) = false := by simp [e2]
            go_wp2
            go_meet
            case rel => exact ⟨rfl, rfl, (Below.refl _ _).alloc (Nat.le_refl _) _⟩
        case rest =>
          clear hA hor c0 c1 c2 c3
          obtain ⟨rfl, rfl, hbc⟩ := hcut
          go_upto_region 9 with (go_at_call 15; refine (HC.out _ hbc).mono ?_; rintro e w2 ⟨ao, m, cu, rfl, hrd, hfr, b2⟩)
          have hB1 : Below wr.heap.size wr (w2.alloc (.cells #[.slice ao m cu, .int .i64 ln.ls] 58)) := (hbc.trans (b2.mono hbc.size)).alloc (Nat.le_trans hbc.size b2.size) _
          have hrow3 := HRw.out.all hB1
          have own3 := hrow3.own
          have hs2 := b2.size
          have hsc := hbc.size
          have HFin : Hid (∀ (v1 : Value) (w8 : World), w8.ownsRow W.heap.size 58 2 v1 (l.length + 1) (hdCells l ++ [.slice ao m cu, .int .i64 ln.ls]) → ((w2.alloc (.cells #[.slice ao m cu, .int .i64 ln.ls] 58)).alloc (.cells #[.slice ao m cu, .int .i64 ln.ls] 58)).grownBy w8 (Value.slice vo vn vk).ownBlock → (∀ g, v1.ownBlock = some g → (Value.slice vo vn vk).ownBlock = some g ∨ w2.heap.size + 2 ≤ g) → HdR W.heap.size w8 v1 (l ++ [(.slice ao m cu, ln.ls)]) (seesN k r (n + 1)) ∧ Below W.heap.size W w8) := fun v1 w8 o1 o2 o3 => by
            rw [HX.out]
            have hrd' : Rd (w2.alloc (.cells #[.slice ao m cu, .int .i64 ln.ls] 58)) (.slice ao m cu) ln.xs := hrd.all ((Below.refl _ _).alloc (Nat.le_refl _) _)
            refine ⟨hrow3.more (y := (ln.xs, ln.ls)) hrd' (fun g hg => ⟨?_, fun e => ?_⟩) o2 o1 (fun g hg => ?_), ?_⟩
            · have := (hfr g hg).2
              simp
              omega
            · have := (HRw.out.own.lt g e).2
              have := (hfr g hg).1
              omega
            · have := o3 g hg
              simpa using this
            · exact ((hbw.trans (hB1.mono hsw)).alloc (by simp; omega) _).grown o2 (by simp; omega) (fun j hj => (HRw.out.own.lt j hj).1)
          have HF1 : Hid (∀ x ∈ l ++ [(Value.slice ao m cu, ln.ls)], ∀ g, x.1.ownBlock = some g → W.heap.size ≤ g) := fun x hx g hg => by
            rcases List.mem_append.1 hx with h1 | h1
            · exact HF0.out x h1 g hg
            · rw [List.mem_singleton] at h1
              subst h1
              have := (hfr g hg).1
              omega
          clear hB1 hrow3 hrd hfr b2
          go_wp2_with (at_builtin; refine wpList_append_at _ rfl _ _ 55 rfl W.heap.size 58 jj _ 2 32 Tryd.underlying55 hj hy0 hy1 hy2 rfl (by decide) _ _ _ rfl (own3.alloc _) ⟨w2.heap.size + 1, 0, none⟩ 1 1 [.slice ao m cu, .int .i64 ln.ls] rfl rfl ?c1A ?c2A ?c3A ?c4A ?c5A ?_)
          case c1A => exact hd_new (by simp) _ _ _
          case c2A => intro u hu; simp at hu; rcases hu with rfl | rfl <;> rfl
          case c3A => unfold maxLen; omega
          case c4A => omega
          case c5A => simp; omega
          intro v1 w8 own8 hg8 hnw8
          have HQ := HFin.out v1 w8 own8 hg8 (fun g hg => by have := hnw8 g hg; simpa using this)
          obtain ⟨g8, cap8, rfl⟩ := own_succ own8
          have HQ1 : Hid (HdR W.heap.size w8 (.slice (some ⟨g8, 0, none⟩) (l.length + 1) cap8) (l ++ [(.slice ao m cu, ln.ls)]) (seesN k r (n + 1))) := HQ.1
          have HQ2 : Hid (Below W.heap.size W w8) := HQ.2
          clear own8 hg8 hnw8 own3 HQ HFin
          go_wp2
          go_roundw
          case rel => exact ⟨n + 1, _, by omega, by go_num, HQ1.out, HF1.out, HQ2.out⟩
          case measure => simp [intOf]; omega
      · have hf1 : f ≠ r := fun e => hor (Or.inl e)
        have ht1 : t ≠ r := fun e => hor (Or.inr ⟨hf1, e⟩)
        have HX : Hid (seesN k r (n + 1) = seesN k r n) := by
          show _ = _
          unfold seesN
          rw [HT, if_neg (by simp [hf1, ht1]), List.append_nil]
        have hq1 : (f != r) = true := by simpa using hf1
        have hq2 : (t != r) = true := by simpa using ht1
        clear HT hrow hat hl hx hlw hor
        go_wp2
        go_roundw
        case rel => exact ⟨n + 1, l, by omega, by go_num, by rw [HX.out]; exact HRw.out.all ((Below.refl _ _).alloc (Nat.le_refl _) _), HF0.out, hbw.alloc hsw _⟩
        case measure => simp [intOf]; omega
    · obtain rfl : n = p.wires.length := by omega
      have hq : decide ((p.wires.length : Int) < (p.wires.length : Int)) = false := decide_eq_false (by omega)
      have hq' : decide (p.wires.length < p.wires.length) = false := decide_eq_false (by omega)
      have HRw : Hid (HdF W.heap.size wr (.slice vo vn vk) (seesK k r)) := by
        refine ⟨l, ?_, HF0.out⟩
        have := hrow
        unfold seesN at this
        rw [← hll, List.take_length] at this
        exact this
      clear hrow
      go_wp2
      go_ret2
      exact ⟨_, _, _, rfl, HRw.out, hbw⟩
end Go.Proofs.YteoemcekkcnpladDoor
