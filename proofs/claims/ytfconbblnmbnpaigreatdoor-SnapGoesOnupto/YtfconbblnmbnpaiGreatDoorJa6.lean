/-
  SnAllW, SplitS, Read7: joined into one text.
-/
import Derived.Test.YtfconbblnmbnpaiGreatDoorJa4
import Derived.Test.YtfconbblnmbnpaiGreatDoorJa2
import Derived.Test.YtfconbblnmbnpaiGreatDoorJa1
import Derived.Deep.RegionLaw
import Derived.RangeFuncNested
import Derived.Test.YtfconbblnmbnpaiGreatDoorJa5
import Derived.Maps.AppendAt
namespace Go.Proofs.YtfconbblnmbnpaiGreatDoor
open Go.RowKit

theorem hdCells_one (x : Value) (z : Int) (h : ∃ a n c, x = .slice a n c) : ∀ u ∈ [x, .int .i64 z], u.oneCell' = true := by
  obtain ⟨a, n, c, rfl⟩ := h
  intro u hu
  simp only [List.mem_cons, List.not_mem_nil, or_false] at hu
  rcases hu with rfl | rfl <;> rfl
/-- What is there so far: what wires hold, each in memory of its own. -/
def HdAt (W wr : World) (v : Value) (us : List (Value × Int)) (ls : List LnD) : Prop := ∀ (i : Nat) u l, us[i]? = some u → ls[i]? = some l → u.2 = l.ls ∧ Rd wr u.1 l.xs ∧ ∀ g, u.1.ownBlock = some g → W.heap.size ≤ g ∧ g < wr.heap.size ∧ v.ownBlock ≠ some g
theorem HdAt.next {W wr w2 w8 : World} {v v8 u : Value} {us : List (Value × Int)} {ls : List LnD} {l : LnD} {n : Nat} (h : HdAt W wr v us ls) (hn : us.length = n) (hl : ls[n]? = some l) (hW : W.heap.size ≤ wr.heap.size) (b2 : Below wr.heap.size wr w2) (hr : Rd w2 u l.xs) (hu : ∀ g, u.ownBlock = some g → wr.heap.size ≤ g ∧ g < w2.heap.size) (hv : ∀ g, v.ownBlock = some g → g < wr.heap.size) {w3 : World} (b3 : Below w2.heap.size w2 w3) (hg : w3.grownBy w8 v.ownBlock) (hnw : ∀ g, v8.ownBlock = some g → v.ownBlock = some g ∨ w3.heap.size ≤ g) :
    HdAt W w8 v8 (us ++ [(u, l.ls)]) ls := by
  have s2 := b2.size
  have s3 := b3.size
  have s8 := hg.size
  have hk : ∀ g, g < w2.heap.size → v.ownBlock ≠ some g → w8.heap[g]? = w2.heap[g]? := fun g h1 h2 => (hg.block g (by omega) (fun e => h2 e.symm)).trans (b3.block g h1)
  intro i u' l' hu' hl'
  by_cases hi : i < us.length
  · rw [List.getElem?_append_left hi] at hu'
    obtain ⟨q1, q2, q3⟩ := h i u' l' hu' hl'
    have hk2 : ∀ g, u'.1.ownBlock = some g → w8.heap[g]? = wr.heap[g]? := fun g e => by
      obtain ⟨_, a2, a3⟩ := q3 g e
      exact (hk g (by omega) a3).trans (b2.block g a2)
    refine ⟨q1, q2.block (fun g _ e => hk2 g e) (by omega), fun g e => ?_⟩
    obtain ⟨a1, a2, a3⟩ := q3 g e
    refine ⟨a1, by omega, fun e8 => ?_⟩
    rcases hnw g e8 with h1 | h1
    · exact a3 h1
    · omega
  · have hin : i = n := by
      have := (List.getElem?_eq_some_iff.1 hu').1
      simp at this
      omega
    subst hin
    rw [hl] at hl'
    obtain rfl := Option.some.inj hl'
    rw [List.getElem?_append_right (by omega), show i - us.length = 0 by omega] at hu'
    simp at hu'
    subst hu'
    refine ⟨rfl, hr.block (fun g h1 e => hk g h1 (fun e2 => ?_)) (by omega), fun g e => ⟨by have := (hu g e).1; omega, by have := (hu g e).2; omega, fun e8 => ?_⟩⟩
    · have := hv g e2
      have := (hu g e).1
      omega
    · have h5 := hu g e
      rcases hnw g e8 with h1 | h1
      · have := hv g h1
        omega
      · omega
set_option maxRecDepth 100000 in
set_option maxHeartbeats 8000000 in
theorem all_hd {G : World → Prop} (C : KerC G) (CW : KerWire C) {w0 W : World} {p : PD} {vc vs vw : Value} {k : KD} {kb : Nat} {F : List Nat} (hK : C.K w0 W p vc vs vw k kb F) (hk : KOk p k) (hp : plchk p = 0) :
    Calls Tryz.prog 20 #[.int .i64 (k.lines.length : Nat), .func (.func 21) #[.pointer (some ⟨kb, 0, none⟩)] #[]] W fun e w' => ∃ v us, e = .returned (.tuple #[v, .bool true]) ∧ us.length = k.lines.length ∧ w'.ownsRow W.heap.size 75 2 v us.length (hdCells us) ∧ HdAt W w' v us k.lines ∧ Below W.heap.size W w' := by
  obtain ⟨jj, hj, hy0, hy1, hy2⟩ := info_parts infoHd
  have hn5 : k.lines.length ≤ 12 := by rw [hk.ll]; exact (wschk_ok (plchk_zero hp).2.2.2.1).1
  have HT : Hid (∀ (i : Nat) l wr, k.lines[i]? = some l → Below W.heap.size W wr → Calls Tryz.prog 21 #[.pointer (some ⟨kb, 0, none⟩), .int .i64 i] wr fun e w2 => ∃ ao m cap, e = .returned (.tuple #[.agg #[.slice ao m cap, .int .i64 l.ls], .nilIface]) ∧ Rd w2 (.slice ao m cap) l.xs ∧ (∀ g, (Value.slice ao m cap).ownBlock = some g → wr.heap.size ≤ g ∧ g < w2.heap.size) ∧ Below wr.heap.size wr w2) := fun i l wr hl hb => by
    have h := CW (i : Int) (C.frame hK (KTouch.of (M := []) hb) (fun m hm => (by cases hm))) hk hp
    have hi := (List.getElem?_eq_some_iff.1 hl).1
    have hno : noLine k i = false := by
      unfold noLine
      rw [Bool.or_eq_false_iff]
      exact ⟨decide_eq_false (by omega), decide_eq_false (by omega)⟩
    have hrk : lineK k i = l := by
      unfold lineK
      rw [if_neg (by rw [hno]; decide), Int.toNat_natCast, List.getD_eq_getElem?_getD, hl]
      rfl
    rw [hno, hrk] at h
    refine h.mono ?_
    rintro e w2 ⟨u, rfl, h1, h2, h3⟩
    obtain ⟨ao, cap, rfl⟩ := h1.form
    exact ⟨_, _, _, rfl, h1, h2, h3⟩
  have HN : Hid (∀ wr, Below W.heap.size W wr → Calls Tryz.prog 21 #[.pointer (some ⟨kb, 0, none⟩), .int .i64 (k.lines.length : Nat)] wr fun e w2 => ∃ ao m cap z, e = .returned (.tuple #[.agg #[.slice ao m cap, .int .i64 z], .iface 66 (.int .i64 1)]) ∧ Below wr.heap.size wr w2) := fun wr hb => by
    have h := CW (k.lines.length : Int) (C.frame hK (KTouch.of (M := []) hb) (fun m hm => (by cases hm))) hk hp
    have hno : noLine k k.lines.length = true := by
      unfold noLine
      rw [Bool.or_eq_true]
      exact Or.inr (decide_eq_true (Int.le_refl _))
    rw [hno] at h
    refine h.mono ?_
    rintro e w2 ⟨u, rfl, h1, _, h3⟩
    obtain ⟨ao, cap, rfl⟩ := h1.form
    exact ⟨_, _, _, _, rfl, h3⟩
  clear hK hk hp
  go_enter Tryz.func20, Tryz.ntmps20
  go_wp2
  go_loopw [6, 13] (fun v i wr => ∃ (n : Nat) (us : List (Value × Int)), n ≤ k.lines.length ∧ i = .int .i64 n ∧ us.length = n ∧ wr.ownsRow W.heap.size 75 2 v n (hdCells us) ∧ HdAt W wr v us k.lines ∧ Below W.heap.size W wr) (fun _ i _ => k.lines.length - (intOf i).toNat)
  case atStart => exact ⟨0, [], Nat.zero_le _, rfl, rfl, World.ownsRow_nil _ _ _ _, fun i u l hu => (by simp at hu), Below.refl _ _⟩
  case round =>
  obtain ⟨n, us, hn, rfl, hul, own, hat, hb⟩ := hrel
  obtain ⟨va, vc, rfl⟩ := sl_form own
  by_cases hnl : n < k.lines.length
  · have hni : (n : Int) < (k.lines.length : Int) := by omega
    obtain ⟨l, hl⟩ : ∃ l, k.lines[n]? = some l := ⟨_, List.getElem?_eq_getElem hnl⟩
    have HL : Hid (k.lines[n]? = some l) := hl
    have HU : Hid (us.length = n) := hul
    have hq := HT.out n l wr hl hb
    clear hl hul
    go_wp2_with (first
      | (go_at_call 21; refine hq.mono ?_; rintro e w2 ⟨ao, m, cap, rfl, hrd, hown, b2⟩; have own2 := own_block own (fun k hk => b2.block k (own.lt k hk).2); have hs2 := b2.size; have hsb := hb.size)
      | (at_builtin; refine wpList_append_at _ rfl _ _ 70 rfl W.heap.size 75 jj _ 2 32 Tryz.underlying70 hj hy0 hy1 hy2 rfl (by decide) _ _ _ rfl ((own2.alloc _).alloc _) ⟨w2.heap.size + 1, 0, none⟩ 1 1 [.slice ao m cap, .int .i64 l.ls] rfl rfl (hd_new (by simp) _ _ _) (hdCells_one _ _ ⟨_, _, _, rfl⟩) (by unfold maxLen; omega) (by omega) (by simp; omega) ?_; intro v1 w8 own8 hg8 hnw8))
    have hb3 : Below W.heap.size W w2 := hb.trans (b2.mono hb.size)
    have hb8 : Below W.heap.size W w8 := ((hb3.alloc (by omega) _).alloc (by simp; omega) _).grown hg8 (by simp; omega) (fun k hk => (own2.lt k hk).1)
    have hat8 := hat.next HU.out HL.out hsb b2 hrd hown (fun g hg => (own.lt g hg).2) (((Below.refl _ w2).alloc (Nat.le_refl _) _).alloc (by simp) _) hg8 hnw8
    obtain ⟨g8, cap8, rfl⟩ := own_succ own8
    go_wp2
    go_roundw
    case rel => exact ⟨n + 1, us ++ [(.slice ao m cap, l.ls)], by omega, by go_num, by simp [HU.out], by rw [hdCells_snoc]; exact own8, hat8, hb8⟩
    case measure => simp [intOf]; omega
  obtain rfl : n = k.lines.length := by omega
  have hni : decide ((k.lines.length : Int) < (k.lines.length : Int)) = false := decide_eq_false (by omega)
  have hnn : decide (k.lines.length < k.lines.length) = false := decide_eq_false (by omega)
  have HU : Hid (us.length = k.lines.length) := hul
  clear hnl hn hul
  go_wp2_with (first
    | (go_at_call 21; refine (HN.out _ hb).mono ?_; rintro e w2 ⟨ao, m, cap, z, rfl, b2⟩)
    | go_region)
  all_goals
    go_wp2_with fail
    go_ret2
    have hb3 : Below W.heap.size W w2 := hb.trans (b2.mono hb.size)
    have hs3 := hb3.size
    have hbx : ∀ w', Below w2.heap.size w2 w' → wr.heap.size ≤ w'.heap.size ∧ Below wr.heap.size wr w' := fun w' h => ⟨Nat.le_trans b2.size h.size, b2.trans (h.mono b2.size)⟩
    have fin : ∀ w', Below wr.heap.size wr w' → us.length = k.lines.length ∧ w'.ownsRow W.heap.size 75 2 (.slice va k.lines.length vc) us.length (hdCells us) ∧ HdAt W w' (.slice va k.lines.length vc) us k.lines ∧ Below W.heap.size W w' := fun w' h => by
      refine ⟨HU.out, ?_, fun i u l hu hl => ?_, hb.trans (h.mono hb.size)⟩
      · rw [HU.out]
        exact own_block own (fun g hg => h.block g (own.lt g hg).2)
      · obtain ⟨q1, q2, q3⟩ := hat i u l hu hl
        exact ⟨q1, q2.all h, fun g hg => ⟨(q3 g hg).1, Nat.lt_of_lt_of_le (q3 g hg).2.1 h.size, (q3 g hg).2.2⟩⟩
    refine ⟨_, us, rfl, fin _ ?_⟩
    refine b2.trans ?_
    have := b2.size
    repeat' first | exact Below.refl _ _ | refine Below.drew ?_ | refine Below.alloc ?_ (by first | omega | (simp; omega)) _
end Go.Proofs.YtfconbblnmbnpaiGreatDoor
namespace Go.Proofs.YtfconbblnmbnpaiGreatDoor
open Go.RowKit Go.Shelf
attribute [local go_sem] Oper.semAt_some

set_option maxRecDepth 1000000 in
set_option maxHeartbeats 4000000 in
theorem split_gives (text : List UInt8) (Bi : Nat) (w : World) (hB : Boxed w Bi 9 (encS text)) (hB1 : Boxed w (Bi + 1) 9 (.string ⟨#[32]⟩)) (hB2 : Boxed w (Bi + 2) 3 (.int .i64 0)) (hl : text.length ≤ 1099511627776) :
    Gives Fence.wide 3 Tryz.prog 122 #[.pointer (some ⟨Bi + 1, 0, none⟩), .pointer (some ⟨Bi, 0, none⟩), .pointer (some ⟨Bi + 2, 0, none⟩)] encS Bi 3 (fun xs => xs = cutB 32 text) (fun pre => pre <+: cutB 32 text) (text.length + 1) w := by
  intro l J Jx W hbel hJ hJx hY h0
  have hBW : Boxed W Bi 9 (encS text) := (hbel.block Bi hB.lt).trans hB
  have hBW1 : Boxed W (Bi + 1) 9 (.string ⟨#[32]⟩) := (hbel.block _ hB1.lt).trans hB1
  have hBW2 : Boxed W (Bi + 2) 3 (.int .i64 0) := (hbel.block _ hB2.lt).trans hB2
  have hc1 := hBW1.cell
  refine callsIn_of_wp Tryz.func122 rfl trivial ?_ rfl
  simp only [Tryz.ntmps122, List.size_toArray, List.length_cons, List.length_nil, Nat.reduceAdd, Nat.reduceSub, Array.replicate_succ, Array.replicate_zero, List.push_toArray, List.append_toArray, List.nil_append, List.cons_append]
  gi_wp2
  clear hc1
  gi_loopw [] (fun wr => ∃ (pre : List (List UInt8)) (rest : List UInt8), Boxed wr Bi 9 (encS rest) ∧ Boxed wr (Bi + 1) 9 (.string ⟨#[32]⟩) ∧ Boxed wr (Bi + 2) 3 (.int .i64 0) ∧ pre ++ cutB 32 rest = cutB 32 text ∧ pre.length + rest.length ≤ text.length ∧ J pre wr) (fun wr => boxLen Bi wr)
  case atStart => exact ⟨[], text, hBW, hBW1, hBW2, by simp, by simp, h0⟩
  case round =>
    obtain ⟨pre, rest, hbx, hbx1, hbx2, heq, hlen, hJr⟩ := hrel
    have hfz := hbx.frozen
    obtain ⟨r, hr⟩ : ∃ r : ByteArray, r = ⟨rest.toArray⟩ := ⟨_, rfl⟩
    have hc : wr.cell? ⟨Bi, 0, none⟩ = some (.string r) := by rw [hr]; exact hbx.cell
    have hc1 := hbx1.cell
    have hc2 := hbx2.cell
    have hrs : r.size = rest.length := by rw [hr, ba_size']
    have hrd : r.data.toList = rest := by rw [hr]
    have hix := Tryz.strings_Index_one r 32 wr
    rw [hrd] at hix
    have hlt : pre.length < text.length + 1 := by omega
    rcases idx_cases 32 rest with ⟨hno, hi⟩ | ⟨u, v, hu, hnu, hi⟩
    · rw [hi] at hix
      obtain ⟨fn, tmps, assign, body, hy, hR⟩ := hY pre rest _ hJr hlt
      rw [show encS rest = .string r by rw [hr]; rfl] at hy
      have HL : Hid (cutB 32 text = pre ++ [rest]) := by show _ = _; rw [← heq]; unfold cutB; rw [cutGo_none 32 rest [] hno]; rfl
      clear heq hno hr hi
      gi_wp2_with (refine ⟨trivial, ?_⟩; gi_at_call 124; refine (callsIn_wide.2 hix).mono ?_; rintro e w' ⟨rfl, hw'⟩; subst hw')
      refine hR.mono ?_
      rintro e W3 (⟨rfl, hJ3, hk3⟩ | ⟨rfl, hJx3⟩)
      · clear hy hR
        gi_wp2
        go_end0
        exact ⟨⟨_, rfl⟩, Or.inl ⟨pre ++ [rest], HL.out.symm, hJ3⟩⟩
      · clear hy hR
        gi_wp2
        go_end0
        exact ⟨⟨_, rfl⟩, Or.inr ⟨pre ++ [rest], by rw [HL.out]; exact List.prefix_refl _, hJx3⟩⟩
    · rw [hi] at hix
      have hul : u.length + 1 + v.length = rest.length := by rw [hu]; simp; omega
      have hx1 : r.extract 0 u.length = ⟨u.toArray⟩ := by rw [ext_eq, hrd, hu]; simp
      have hx2 : r.extract (u.length + 1) rest.length = ⟨v.toArray⟩ := by rw [ext_eq, hrd, List.take_length, hu, drop_mid]
      obtain ⟨fn, tmps, assign, body, hy, hR⟩ := hY pre u _ hJr hlt
      rw [show encS u = .string (r.extract 0 u.length) by rw [hx1]; rfl] at hy
      have HL : Hid (cutB 32 text = pre ++ u :: cutB 32 v) := by show _ = _; rw [← heq, hu]; unfold cutB; rw [cutGo_at 32 u [] v hnu]; rfl
      have HN : Hid (boxLen Bi wr = rest.length) := boxLen_of hbx
      have hub : (u.length : Int) < r.size := by omega
      have hub2 : u.length + 1 ≤ r.size := by omega
      have HX : Hid (r.extract (u.length + 1) rest.length = ⟨v.toArray⟩) := hx2
      clear heq hr hi hu hx1 hx2 hrd
      gi_wp2_with (refine ⟨trivial, ?_⟩; gi_at_call 124; refine (callsIn_wide.2 hix).mono ?_; rintro e w' ⟨rfl, hw'⟩; subst hw')
      refine hR.mono ?_
      rintro e W3 (⟨rfl, hJ3, hk3⟩ | ⟨rfl, hJx3⟩)
      · have ex0 : Boxed W3 Bi 9 (.string r) := (hk3 Bi (Nat.le_refl _) (by omega)).trans (Boxed.of_cell hbx hc)
        have ex1 : Boxed W3 (Bi + 1) 9 (.string ⟨#[32]⟩) := (hk3 (Bi + 1) (by omega) (by omega)).trans hbx1
        have ex2 : Boxed W3 (Bi + 2) 3 (.int .i64 0) := (hk3 (Bi + 2) (by omega) (by omega)).trans hbx2
        have e0 := ex0.cell
        have e1 := ex1.cell
        have ef := ex0.frozen
        have g0 := ex0.set (.string (r.extract (u.length + 1) rest.length))
        have g1 := ex1.other (show Bi + 1 ≠ Bi by omega) (.string (r.extract (u.length + 1) rest.length))
        have g2 := ex2.other (show Bi + 2 ≠ Bi by omega) (.string (r.extract (u.length + 1) rest.length))
        have gJ := hJ _ _ _ hJ3 (grownBy_setCell' W3 Bi (.string (r.extract (u.length + 1) rest.length)))
        have HM : Hid (boxLen Bi (W3.setCell ⟨Bi, 0, none⟩ (.string (r.extract (u.length + 1) rest.length))) = v.length) := by rw [HX.out] at g0 ⊢; exact boxLen_of (l := v) g0
        clear hy hR hc hc1 hc2 hfz
        gi_wp2
        go_roundw
        case rel => exact ⟨pre ++ [u], v, by rw [HX.out] at g0 ⊢; exact g0, g1, g2, by rw [HL.out]; simp, by simp; omega, gJ⟩
        case measure => rw [HM.out, HN.out]; omega
      · clear hy hR
        gi_wp2
        refine bodyPost_ret (results_none rfl _ _ _) rfl ?_
        exact ⟨⟨_, rfl⟩, Or.inr ⟨pre ++ [u], by rw [HL.out]; exact ⟨cutB 32 v, by simp⟩, hJx3⟩⟩
end Go.Proofs.YtfconbblnmbnpaiGreatDoor
namespace Go.Proofs.YtfconbblnmbnpaiGreatDoor
open Go.RowKit Go.Shelf
attribute [local go_sem] Oper.semAt_some

set_option maxRecDepth 1000000 in
set_option maxHeartbeats 4000000 in
theorem read7_open (s : ByteArray) (w : World) (hs : ∀ u, s.data.toList ≠ u ++ [10]) (hl : s.size ≤ 1099511627776) :
    Calls Tryz.prog 43 #[.string s, .int .i64 7] w fun e w' => e = .returned (.tuple #[.string ⟨#[]⟩, .slice none 0 0, .bool false]) ∧ Below w.heap.size w w' := by
  have hsu := fun w => suffix_no s w hs hl
  clear hs
  refine (callsIn_wide (n := 4)).1 ?_
  refine callsIn_of_wp_marks Tryz.func43 rfl trivial ?_ rfl
  simp only [Tryz.ntmps43, List.size_toArray, List.length_cons, List.length_nil, Nat.reduceAdd, Nat.reduceSub, Array.replicate_succ, Array.replicate_zero, List.push_toArray, List.append_toArray, List.nil_append, List.cons_append]
  gi_wp2_with (refine ⟨trivial, ?_⟩; gi_at_call 73; refine (callsIn_wide.2 (hsu _)).mono ?_; rintro e w' ⟨⟨t, rfl⟩, hw'⟩; subst hw')
  refine ⟨.tuple #[.string ⟨#[]⟩, .slice none 0 0, .bool false], by simp [results, Tryz.results43, go_sem], rfl, ?_⟩
  exact ((((Below.refl _ w).alloc (Nat.le_refl _) _).alloc (by simp) _).alloc (by simp; omega) _).alloc (by simp; omega) _

set_option maxRecDepth 1000000 in
set_option maxHeartbeats 4000000 in
theorem read7_word (s : ByteArray) (u : List UInt8) (w : World) (hs : s.data.toList = u ++ [10]) (hu : (32 : UInt8) ∉ u) (hl : s.size ≤ 1099511627776) :
    Calls Tryz.prog 43 #[.string s, .int .i64 7] w fun e w' => e = .returned (.tuple #[.string ⟨u.toArray⟩, .slice none 0 0, .bool true]) ∧ Below w.heap.size w w' := by
  have hsu := fun w => suffix_yes s u w hs hl
  have hcu := fun w => cut1_no ⟨u.toArray⟩ w (by simpa using hu)
  clear hs hu
  refine (callsIn_wide (n := 4)).1 ?_
  refine callsIn_of_wp_marks Tryz.func43 rfl trivial ?_ rfl
  simp only [Tryz.ntmps43, List.size_toArray, List.length_cons, List.length_nil, Nat.reduceAdd, Nat.reduceSub, Array.replicate_succ, Array.replicate_zero, List.push_toArray, List.append_toArray, List.nil_append, List.cons_append]
  gi_wp2_with (first | (refine ⟨trivial, ?_⟩; gi_at_call 73; refine (callsIn_wide.2 (hsu _)).mono ?_; rintro e w' ⟨rfl, hw'⟩; subst hw') | (refine ⟨trivial, ?_⟩; gi_at_call 74; refine (callsIn_wide.2 (hcu _)).mono ?_; rintro e w2 ⟨rfl, b2⟩; obtain ⟨x1, x2, x3, x4, bw, hsz⟩ := four_boxes b2; have c1 := x2.cell; have c2 := x3.cell; have c3 := x4.cell; have f1 := x2.frozen; have f2 := x3.frozen; have f3 := x4.frozen; clear b2 x1))
  refine ⟨.tuple #[.string ⟨u.toArray⟩, .slice none 0 0, .bool true], ?_, rfl, ?_⟩
  · simp [results, Tryz.results43, go_sem, c1, c2, c3]
  · exact ((bw.setCell (p := ⟨w.heap.size + 1, 0, none⟩) (by simp) _).setCell (p := ⟨w.heap.size + 1 + 1, 0, none⟩) (by simp; omega) _).setCell (p := ⟨w.heap.size + 1 + 1 + 1, 0, none⟩) (by simp; omega) _

set_option maxRecDepth 1000000 in
set_option maxHeartbeats 4000000 in
theorem splitSeq7_any (s : ByteArray) (w : World) :
    Calls Tryz.prog 75 #[.string s, .string ⟨#[32]⟩] w fun e w' => e = .returned (.func (.func 122) #[] #[.pointer (some ⟨w.heap.size + 1, 0, none⟩), .pointer (some ⟨w.heap.size, 0, none⟩), .pointer (some ⟨w.heap.size + 1 + 1, 0, none⟩)]) ∧
      w' = ((w.alloc (.cells #[.string s] 9)).alloc (.cells #[.string ⟨#[32]⟩] 9)).alloc (.cells #[.int .i64 0] 3) := by
  go_enter Tryz.func75, Tryz.ntmps75
  go_wp2
  go_ret
  exact ⟨rfl, rfl⟩

set_option maxRecDepth 1000000 in
set_option maxHeartbeats 4000000 in
theorem read7_nums (s : ByteArray) (a v : List UInt8) (w : World) (ht : Tabs2 w) (hs : s.data.toList = (a ++ 32 :: v) ++ [10]) (ha : (32 : UInt8) ∉ a) (hl : s.size ≤ 1099511627776) :
    Calls Tryz.prog 43 #[.string s, .int .i64 7] w fun e w' =>
      ((∃ ns vv, nums7 (cutB 32 v) = some ns ∧ e = .returned (.tuple #[.string ⟨a.toArray⟩, vv, .bool true]) ∧ w'.ownsRow w.heap.size 3 1 vv ns.length (ns.map (Value.int .i64))) ∨
       (nums7 (cutB 32 v) = none ∧ e = .returned (.tuple #[.string ⟨#[]⟩, .slice none 0 0, .bool false]))) ∧ Below w.heap.size w w' := by
  obtain ⟨ii, hi, hz0, hz1, hz2⟩ := info_parts infoIntC
  have hsz : s.size = a.length + v.length + 2 := by
    have : s.data.toList.length = s.size := by simp
    rw [← this, hs]; simp; omega
  have hsu := fun w => suffix_yes s (a ++ 32 :: v) w hs hl
  have hcu := fun w => cut1_yes ⟨(a ++ 32 :: v).toArray⟩ a v w (by simp) ha (by rw [ba_size']; simp; omega)
  clear hs ha
  refine (callsIn_wide (n := 4)).1 ?_
  refine callsIn_of_wp_marks Tryz.func43 rfl trivial ?_ rfl
  simp only [Tryz.ntmps43, List.size_toArray, List.length_cons, List.length_nil, Nat.reduceAdd, Nat.reduceSub, Array.replicate_succ, Array.replicate_zero, List.push_toArray, List.append_toArray, List.nil_append, List.cons_append]
  gi_wp2_with (first | (refine ⟨trivial, ?_⟩; gi_at_call 73; refine (callsIn_wide.2 (hsu _)).mono ?_; rintro e w' ⟨rfl, hw'⟩; subst hw') | (refine ⟨trivial, ?_⟩; gi_at_call 74; refine (callsIn_wide.2 (hcu _)).mono ?_; rintro e w2 ⟨rfl, b2⟩; obtain ⟨x1, x2, x3, x4, bw, hsz2⟩ := four_boxes b2; clear b2) | (refine ⟨trivial, ?_⟩; gi_at_call 75; refine (callsIn_wide.2 (splitSeq7_any _ _)).mono ?_; rintro e w3 ⟨rfl, hw3⟩; subst hw3))
  obtain ⟨W0, hW0⟩ : ∃ W0, (((w2.alloc (.cells #[.slice none 0 0] 73)).alloc (.cells #[.string ⟨v.toArray⟩] 9)).alloc (.cells #[.string ⟨#[32]⟩] 9)).alloc (.cells #[.int .i64 0] 3) = W0 := ⟨_, rfl⟩
  have y0 : Boxed W0 w2.heap.size 73 (.slice none 0 0) ∧ Boxed W0 (w2.heap.size + 1) 9 (encS v) ∧ Boxed W0 (w2.heap.size + 1 + 1) 9 (.string ⟨#[32]⟩) ∧ Boxed W0 (w2.heap.size + 1 + 1 + 1) 3 (.int .i64 0) ∧ W0.heap.size = w2.heap.size + 4 ∧ Below w2.heap.size w2 W0 := by
    have h0 := Boxed.new w2 73 (.slice none 0 0)
    have h1 := Boxed.new (w2.alloc (.cells #[.slice none 0 0] 73)) 9 (encS v)
    have h2 := Boxed.new ((w2.alloc (.cells #[.slice none 0 0] 73)).alloc (.cells #[encS v] 9)) 9 (.string ⟨#[32]⟩)
    have h3 := Boxed.new (((w2.alloc (.cells #[.slice none 0 0] 73)).alloc (.cells #[encS v] 9)).alloc (.cells #[.string ⟨#[32]⟩] 9)) 3 (.int .i64 0)
    simp only [World.size_alloc] at h1 h2 h3
    rw [← hW0]
    exact ⟨((h0.alloc _).alloc _).alloc _, (h1.alloc _).alloc _, h2.alloc _, h3, by simp, ((((Below.refl _ w2).alloc (Nat.le_refl _) _).alloc (by simp) _).alloc (by simp; omega) _).alloc (by simp; omega) _⟩
  rw [hW0]
  obtain ⟨y1, y2, y3, y4, hWs, bW⟩ := y0
  have z1 : Boxed W0 w.heap.size 3 (.int .i64 7) := (bW.block _ x1.lt).trans x1
  have z2 : Boxed W0 (w.heap.size + 1) 9 (.string ⟨#[]⟩) := (bW.block _ x2.lt).trans x2
  have z3 : Boxed W0 (w.heap.size + 1 + 1) 73 (.slice none 0 0) := (bW.block _ x3.lt).trans x3
  have z4 : Boxed W0 (w.heap.size + 1 + 1 + 1) 4 (.bool false) := (bW.block _ x4.lt).trans x4
  have bw0 : Below w.heap.size w W0 := bw.trans (bW.mono (by omega))
  clear x1 x2 x3 x4 bW hW0 hsu hcu bw
  have hBi : Boxed W0 (w2.heap.size + 1 + 2) 3 (.int .i64 0) := y4
  refine wpIn_rangeState (P := Tryz.prog) 13 (Bi := w2.heap.size + 1) (m := 3) rfl (by omega) (gf := 122) (lb := #[.pointer (some ⟨w2.heap.size + 1 + 1, 0, none⟩), .pointer (some ⟨w2.heap.size + 1, 0, none⟩), .pointer (some ⟨w2.heap.size + 1 + 2, 0, none⟩)]) rfl trivial (enters_of Tryz.func122 (by kernel_rfl) rfl)
    (split_gives v (w2.heap.size + 1) W0 y2 y3 hBi (by omega)) (by omega) (by omega)
    (fun pre W => (∃ ns vv, nums7 pre = some ns ∧ Boxed W w2.heap.size 73 vv ∧ W.ownsRow (w2.heap.size + 4) 3 1 vv ns.length (ns.map (Value.int .i64))) ∧ ((Boxed W w.heap.size 3 (.int .i64 7) ∧ Boxed W (w.heap.size + 1) 9 (.string ⟨#[]⟩)) ∧ (Boxed W (w.heap.size + 1 + 1) 73 (.slice none 0 0) ∧ Boxed W (w.heap.size + 1 + 1 + 1) 4 (.bool false))) ∧ ((Below w.heap.size w W ∧ w.heap.size ≤ W.heap.size) ∧ w2.heap.size + 4 ≤ W.heap.size))
    (fun pre W => (∃ q p, pre = q ++ [p] ∧ numB7 p = none) ∧ (Boxed W (w.heap.size + 1) 9 (.string ⟨#[]⟩) ∧ (Boxed W (w.heap.size + 1 + 1) 73 (.slice none 0 0) ∧ Boxed W (w.heap.size + 1 + 1 + 1) 4 (.bool false))) ∧ (Below w.heap.size w W ∧ w.heap.size ≤ W.heap.size))
    ?hI ?hIx ?h0 ?assign ?body ?done ?stop
  case hI =>
    refine Steady.and (fun s W W' row hs hg hr => ?_) (Steady.and (Steady.and (Steady.and (steady_boxed _ _ (fun _ => _) (by omega)) (steady_boxed _ _ (fun _ => _) (by omega))) (Steady.and (steady_boxed _ _ (fun _ => _) (by omega)) (steady_boxed _ _ (fun _ => _) (by omega)))) (Steady.and (steady_below (by omega) (by omega)) (fun s W W' row hs hg hr => Nat.le_trans hs hg.size)))
    obtain ⟨ns, vv, h1, h2, h3⟩ := hs
    exact ⟨ns, vv, h1, steady_boxed (B := W0.heap.size) w2.heap.size 73 (fun (_ : Unit) => vv) (by omega) () W W' row h2 hg hr, own_steady h3 hg hr (by omega)⟩
  case hIx =>
    exact Steady.and (steady_pure _ _ _) (Steady.and (Steady.and (steady_boxed _ _ (fun _ => _) (by omega)) (Steady.and (steady_boxed _ _ (fun _ => _) (by omega)) (steady_boxed _ _ (fun _ => _) (by omega)))) (steady_below (by omega) (by omega)))
  case h0 => exact ⟨⟨[], _, rfl, y1, World.ownsRow_nil _ _ _ _⟩, ⟨⟨z1, z2⟩, z3, z4⟩, ⟨bw0, by omega⟩, by omega⟩
  case assign =>
    intro l x W K hK
    simp only [List.setIfInBounds_toArray, List.set_cons_zero, List.set_cons_succ] at hK
    gi_wp2
    exact hK
  case body =>
    rintro l pre x W ⟨⟨ns, vv, hns, hbv, hown⟩, ⟨⟨q1, q2⟩, q3, q4⟩, ⟨hb, hb'⟩, hsz3⟩ hlen
    simp only [List.setIfInBounds_toArray, List.set_cons_zero, List.set_cons_succ]
    have hnl : ns.length ≤ pre.length := Nat.le_of_eq (n7_len hns)
    have htW : Tabs2 W := ht.all hb
    have hc1 := q1.cell
    cases hx : numB7 x with
    | none =>
      have hnum : Calls Tryz.prog 76 #[encS x, .int .i64 7] W fun e w' => e = .returned (.tuple #[.int .i64 0, .bool false]) ∧ Below W.heap.size W w' := by
        have := number7_any ⟨x.toArray⟩ W htW
        simp only [hx, Option.getD_none, Option.isSome_none] at this
        exact this
      have HX : Hid (numB7 x = none) := hx
      clear hx htW
      gi_wp2_with (refine ⟨trivial, ?_⟩; gi_at_call 76; refine (CallsIn.inRound l (callsIn_wide.2 hnum)).mono ?_; rintro e W2 ⟨rfl, b2⟩; have e2 := (b2.block _ q2.lt).trans q2; have e3 := (b2.block _ q3.lt).trans q3; have e4 := (b2.block _ q4.lt).trans q4; have c2 := Boxed.cell e2; have c3 := Boxed.cell e3; have c4 := Boxed.cell e4; have f2 := Boxed.frozen e2; have f3 := Boxed.frozen e3; have f4 := Boxed.frozen e4; clear hnum)
      refine ⟨(keepsFrom_below b2).trans (((KeepsOthers.setCell _ _ _).trans ((KeepsOthers.setCell _ _ _).trans (KeepsOthers.setCell _ _ _))).from _), ⟨pre, x, rfl, HX.out⟩, ⟨?_, ?_, ?_⟩, ?_, ?_⟩
      · exact ((Boxed.set _ e2).other (by omega) _).other (by omega) _
      · exact ((Boxed.other e3 (by omega) _).set _).other (by omega) _
      · exact ((Boxed.other e4 (by omega) _).other (by omega) _).set _
      · exact (((hb.trans (b2.mono hb')).setCell (p := ⟨w.heap.size + 1, 0, none⟩) (by simp) _).setCell (p := ⟨w.heap.size + 1 + 1, 0, none⟩) (by simp; omega) _).setCell (p := ⟨w.heap.size + 1 + 1 + 1, 0, none⟩) (by simp; omega) _
      · simp only [World.setCell, Array.size_modify]; exact Nat.le_trans hb' b2.size
    | some k =>
      have hnum : Calls Tryz.prog 76 #[encS x, .int .i64 7] W fun e w' => e = .returned (.tuple #[.int .i64 k, .bool true]) ∧ Below W.heap.size W w' := by
        have := number7_any ⟨x.toArray⟩ W htW
        simp only [hx, Option.getD_some, Option.isSome_some] at this
        exact this
      have HX : Hid (nums7 (pre ++ [x]) = some (ns ++ [k])) := n7_snoc pre ns x k hns hx
      clear hx htW hns
      gi_wp2_with (first | (refine ⟨trivial, ?_⟩; gi_at_call 76; refine (CallsIn.inRound l (callsIn_wide.2 hnum)).mono ?_; rintro e W2 ⟨rfl, b2⟩; have g1 := (b2.block _ q1.lt).trans q1; have g2 := (b2.block _ q2.lt).trans q2; have g3 := (b2.block _ q3.lt).trans q3; have g4 := (b2.block _ q4.lt).trans q4; have gv := (b2.block _ hbv.lt).trans hbv; have hown2 := own_all hown b2; have cv := Boxed.cell gv; have fv := Boxed.frozen gv; have hs2 := b2.size; clear hnum hown) | (gi_at_builtin; refine wpListIn_append_own _ rfl _ _ 73 rfl (w2.heap.size + 4) 3 ii (.int .i64 0) 1 8 Tryz.underlying73 hi hz0 hz1 hz2 rfl (by decide) _ _ _ rfl (hown2.alloc _) ⟨W2.heap.size, 0, none⟩ 1 1 [.int .i64 k] rfl rfl (cell_one_new _ _ _) (by simp [Value.oneCell']) (by unfold maxLen; omega) (by omega) (by simp; omega) ?_; intro v' w1 hown' hgrow _; obtain ⟨g', cap', rfl⟩ := ownsRow_succ hown'; have hv1 := Boxed.kept (Boxed.alloc gv _) hgrow (Boxed.not_row gv (by decide) hown2); have cv1 := hv1.cell; have fv1 := hv1.frozen))
      obtain ⟨r1, r2, r3, r4, r5, r6⟩ := app_step b2 (show w2.heap.size < w2.heap.size + 4 by omega) hsz3 gv (by decide) hown2 hown' hgrow
      refine ⟨r1.from _, fun j hj0 hj1 => r2 j (by omega) (by omega), ⟨ns ++ [k], _, HX.out, r3, by simpa using r4⟩, ⟨⟨(r2 _ (by omega) (by omega)).trans q1, (r2 _ (by omega) (by omega)).trans q2⟩, (r2 _ (by omega) (by omega)).trans q3, (r2 _ (by omega) (by omega)).trans q4⟩, ⟨hb.trans (r5.mono (by omega)), by omega⟩, by omega⟩
  case done =>
    rintro D xs W hD rfl ⟨⟨ns, vv, hns, hbv, hown⟩, ⟨⟨q1, q2⟩, q3, q4⟩, ⟨hb, hb'⟩, hsz3⟩ hK
    obtain ⟨ao, nn, cap, rfl⟩ : ∃ ao nn cap, vv = .slice ao nn cap := by
      rcases hown.2 with ⟨h, _⟩ | ⟨g, cap, cur, h, _⟩
      · exact ⟨_, _, _, h⟩
      · exact ⟨_, _, _, h⟩
    have cv := hbv.cell
    have c2 := q2.cell
    have c3 := q3.cell
    have c4 := q4.cell
    have f2 := q2.frozen
    have f3 := q3.frozen
    have f4 := q4.frozen
    have HN : Hid (nums7 (cutB 32 v) = some ns) := hns
    clear hns
    gi_wp2
    gi_region
    gi_wp2
    obtain ⟨W4, hW4⟩ : ∃ W4, (((W.setCell ⟨w.heap.size + 1, 0, none⟩ (.string ⟨a.toArray⟩)).setCell ⟨w.heap.size + 1 + 1, 0, none⟩ (.slice ao nn cap)).setCell ⟨w.heap.size + 1 + 1 + 1, 0, none⟩ (.bool true)).drew = W4 := ⟨_, rfl⟩
    rw [hW4]
    have p2 : Boxed W4 (w.heap.size + 1) 9 (.string ⟨a.toArray⟩) := by rw [← hW4]; exact ((Boxed.set _ q2).other (by omega) _).other (by omega) _
    have p3 : Boxed W4 (w.heap.size + 1 + 1) 73 (.slice ao nn cap) := by rw [← hW4]; exact ((Boxed.other q3 (by omega) _).set _).other (by omega) _
    have p4 : Boxed W4 (w.heap.size + 1 + 1 + 1) 4 (.bool true) := by rw [← hW4]; exact ((Boxed.other q4 (by omega) _).other (by omega) _).set _
    have pK : W4.heap[D]? = some (.deferred (some [])) := by rw [← hW4]; exact ((KeepsOthers.setCell _ _ _).trans ((KeepsOthers.setCell _ _ _).trans (KeepsOthers.setCell _ _ _))).same D _ hK rfl
    have pb : Below w.heap.size w W4 := by rw [← hW4]; exact (((hb.setCell (p := ⟨w.heap.size + 1, 0, none⟩) (by simp) _).setCell (p := ⟨w.heap.size + 1 + 1, 0, none⟩) (by simp; omega) _).setCell (p := ⟨w.heap.size + 1 + 1 + 1, 0, none⟩) (by simp; omega) _).drew
    have po : W4.ownsRow (w2.heap.size + 4) 3 1 (.slice ao nn cap) ns.length (ns.map (Value.int .i64)) := by
      rw [← hW4]
      exact ((ownsRow_setCell_below hown (by simp; omega) _ |> fun h => ownsRow_setCell_below h (by simp; omega) _) |> fun h => ownsRow_setCell_below h (by simp; omega) _)
    clear hW4 hown hK q1 q2 q3 q4 hb c2 c3 c4 f2 f3 f4 cv hbv
    have u2 := Boxed.kept p2 (grownBy_putObj' W4 D (.deferred none)) (fun e => by cases e; omega)
    have u3 := Boxed.kept p3 (grownBy_putObj' W4 D (.deferred none)) (fun e => by cases e; omega)
    have u4 := Boxed.kept p4 (grownBy_putObj' W4 D (.deferred none)) (fun e => by cases e; omega)
    have d2 := u2.cell
    have d3 := u3.cell
    have d4 := u4.cell
    refine ⟨by simp, .inl ⟨_, _, rfl, run_takeDeferred pK, ?_⟩⟩
    refine ⟨.tuple #[.string ⟨a.toArray⟩, .slice ao nn cap, .bool true], ?_, Or.inl ⟨ns, _, HN.out, rfl, Joins.ownsRow_le (ownsRow_putObj po _ pK rfl) (by omega)⟩, ?_⟩
    · simp [results, Tryz.results43, go_sem, d2, d3, d4]
    · exact pb.trans (belowK_b (w := w) (Nat.le_refl _) W4 D _ _ (by omega) pK rfl rfl)
  case stop =>
    rintro D pre W hD hpre ⟨⟨q, p, rfl, hp⟩, ⟨q2, q3, q4⟩, hb, hb'⟩ hK
    have c2 := q2.cell
    have c3 := q3.cell
    have c4 := q4.cell
    have HN : Hid (nums7 (cutB 32 v) = none) := by
      obtain ⟨r, hr⟩ := hpre
      show _ = _
      rw [← hr, List.append_assoc]
      exact n7_bad hp
    clear hp hpre
    gi_wp2
    have u2 := Boxed.kept q2 (grownBy_putObj' W D (.deferred none)) (fun e => by cases e; omega)
    have u3 := Boxed.kept q3 (grownBy_putObj' W D (.deferred none)) (fun e => by cases e; omega)
    have u4 := Boxed.kept q4 (grownBy_putObj' W D (.deferred none)) (fun e => by cases e; omega)
    have d2 := u2.cell
    have d3 := u3.cell
    have d4 := u4.cell
    refine ⟨by simp, .inl ⟨_, _, rfl, run_takeDeferred hK, ?_⟩⟩
    refine ⟨.tuple #[.string ⟨#[]⟩, .slice none 0 0, .bool false], ?_, Or.inr ⟨HN.out, rfl⟩, ?_⟩
    · simp [results, Tryz.results43, go_sem, d2, d3, d4]
    · exact hb.trans (belowK_b (w := w) (Nat.le_refl _) W D _ _ (by omega) hK rfl rfl)

theorem read7_any (s : ByteArray) (w : World) (ht : Tabs2 w) (hl : s.size ≤ 1099511627776) :
    Calls Tryz.prog 43 #[.string s, .int .i64 7] w fun e w' =>
      ((∃ p ns vv, read7B s.data.toList = some (p, ns) ∧ e = .returned (.tuple #[.string ⟨p.toArray⟩, vv, .bool true]) ∧ w'.ownsRow w.heap.size 3 1 vv ns.length (ns.map (Value.int .i64))) ∨
       (read7B s.data.toList = none ∧ e = .returned (.tuple #[.string ⟨#[]⟩, .slice none 0 0, .bool false]))) ∧ Below w.heap.size w w' := by
  by_cases h : ∃ u, s.data.toList = u ++ [10]
  · obtain ⟨u, hu⟩ := h
    rcases idx_cases 32 u with ⟨hno, _⟩ | ⟨a, v, hav, hna, _⟩
    · refine (read7_word s u w hu hno hl).mono ?_
      rintro e w' ⟨rfl, hb⟩
      exact ⟨Or.inl ⟨u, [], _, by rw [hu, read7B_snoc, wnL_no hno], rfl, World.ownsRow_nil _ _ _ _⟩, hb⟩
    · subst hav
      refine (read7_nums s a v w ht hu hna hl).mono ?_
      rintro e w' ⟨⟨ns, vv, h1, rfl, h3⟩ | ⟨h1, rfl⟩, hb⟩
      · exact ⟨Or.inl ⟨a, ns, vv, by rw [hu, read7B_snoc, wnL_at hna, h1]; rfl, rfl, h3⟩, hb⟩
      · exact ⟨Or.inr ⟨by rw [hu, read7B_snoc, wnL_at hna, h1]; rfl, rfl⟩, hb⟩
  · have h' : ∀ u, s.data.toList ≠ u ++ [10] := fun u e => h ⟨u, e⟩
    refine (read7_open s w h' hl).mono ?_
    rintro e w' ⟨rfl, hb⟩
    exact ⟨Or.inr ⟨read7B_none h', rfl⟩, hb⟩
end Go.Proofs.YtfconbblnmbnpaiGreatDoor
