/-
  KerG, CrNew, CarG: joined into one text.
-/
import Derived.Test.YtajfgmlockjmhafDoorJa9
import Derived.Test.YtajfgmlockjmhafDoorGTick
import Derived.Test.YtajfgmlockjmhafDoorGNew
import Derived.Test.YtajfgmlockjmhafDoorJa3
import Derived.Test.YtajfgmlockjmhafDoorJa8
import Derived.Test.YtajfgmlockjmhafDoorJa2
import Derived.Test.YtajfgmlockjmhafDoorJa1
import Derived.Test.YtajfgmlockjmhafDoorJa11
namespace Go.Proofs.YtajfgmlockjmhafDoor
open Go.RowKit

/-- A kernel of package kernel, made since w0, and all its blocks. -/
def KG (w0 w : World) (p : PD) (k : KD) (kb : Nat) (F : List Nat) : Prop := ∃ a : GW, GK w w0.heap.size p k kb a ∧ F = a.F kb ∧ Below w0.heap.size w0 w
def gker {G : World → Prop} (hG : ∀ w, G w → Forms w) (hall : ∀ w w', G w → Below w.heap.size w w' → G w') : KerC G where
  K := fun w0 w p _ _ _ k kb F => KG w0 w p k kb F
  all := hall
  since := fun ⟨_, _, _, hb⟩ => hb
  ge := fun ⟨_, h, hF, _⟩ g hg => by
    subst hF
    exact ⟨h.ge g hg, h.flt g hg⟩
  lower := fun h1 ⟨a, h, hF, hb⟩ => ⟨a, h.lower h1.size, hF, h1.trans (hb.mono h1.size)⟩
  frame := fun ⟨a, h, hF, hb⟩ ht hM => by
    subst hF
    exact ⟨a, h.frame ht (fun m hm => (hM m hm).1), rfl, hb.trans (ht.below (fun m hm => (hM m hm).2) hb.size)⟩
  new := fun p vc vs vw W hg hP hp => by
    refine (gnew_ok p vc vs vw W (hG W hg) hP hp).mono ?_
    rintro e w' ⟨kb, a, rfl, h, hb⟩
    exact ⟨kb, _, rfl, a, h, rfl, hb⟩
  no := fun p vc vs vw W hg hP hp => gnew_no p vc vs vw W (hG W hg) hP hp
  tick := fun {w0 W p _ _ _ k kb F} hg ⟨a, h, hF, hb⟩ hp hk ht => by
    subst hF
    refine (gtick_any p k kb w0.heap.size a W ((hG w0 hg).all hb) h hb.size hp hk ht).mono ?_
    rintro e w' ⟨rfl, a', h1, h2, h3⟩
    exact ⟨rfl, _, ⟨a', h1, rfl, hb.trans (h2.below h.ge hb.size)⟩, h2, h3⟩
  state := fun {_ W p _ _ _ k kb _} r ⟨a, h, _, _⟩ _ _ => gstate_any p k kb _ a r W h
end Go.Proofs.YtajfgmlockjmhafDoor
namespace Go.Proofs.YtajfgmlockjmhafDoor
open Go.RowKit

set_option maxRecDepth 100000 in
set_option maxHeartbeats 1000000 in
theorem crnone_any (n : Int) (w : World) : Calls Tryd.prog 37 #[.int .i64 n] w fun e w' => e = .returned (.bool (ruleOut n)) ∧ Below w.heap.size w w' := by
  by_cases h0 : n = 0
  · subst h0
    go_enter Tryd.func37, Tryd.ntmps37
    go_wp2
    go_ret
    exact ⟨rfl, Below.refl _ _⟩
  · have h0' : (n != 0) = true := by simpa using h0
    by_cases h1 : n = 1
    · subst h1
      go_enter Tryd.func37, Tryd.ntmps37
      go_wp2
      go_ret
      exact ⟨rfl, Below.refl _ _⟩
    · have h1' : (n != 1) = true := by simpa using h1
      by_cases h2 : n = 2
      · subst h2
        go_enter Tryd.func37, Tryd.ntmps37
        go_wp2
        go_ret
        exact ⟨rfl, Below.refl _ _⟩
      · have h2' : (n != 2) = true := by simpa using h2
        have HX : Hid (ruleOut n = true) := by
          show _ = _
          unfold ruleOut
          rw [Bool.or_eq_true, decide_eq_true_eq, decide_eq_true_eq]
          omega
        go_enter Tryd.func37, Tryd.ntmps37
        go_wp2
        go_ret
        exact ⟨by rw [HX.out]; rfl, Below.refl _ _⟩
set_option maxRecDepth 100000 in
set_option maxHeartbeats 2000000 in
theorem indexRule (l : List Int) (ao : Option Addr) (cap : Nat) (w : World) (hl : Stp w (.slice ao l.length cap) l) (h5 : l.length ≤ 5) :
    Calls Tryd.prog 62 #[.slice ao l.length cap, .func (.func 37) #[] #[]] w fun e w' =>
      (∃ r : Int, e = .returned (.int .i64 r) ∧ decide (0 ≤ r) = l.any ruleOut) ∧ Below w.heap.size w w' := by
  have HL : Hid (Stp w (.slice ao l.length cap) l) := hl
  clear hl
  go_enter Tryd.func62, Tryd.ntmps62
  go_wp2
  go_loopw [8] (fun i wr => ∃ k : Nat, k ≤ l.length ∧ i = .int .i64 k ∧ (∀ (j : Nat) x, j < k → l[j]? = some x → ruleOut x = false) ∧ Below w.heap.size w wr) (fun i _ => l.length - (intOf i).toNat)
  case atStart => exact ⟨0, Nat.zero_le _, rfl, fun j _ hj => by omega, Below.refl _ _⟩
  case round =>
    obtain ⟨k, hk, rfl, hall, hb⟩ := hrel
    have Hall : Hid (∀ (j : Nat) x, j < k → l[j]? = some x → ruleOut x = false) := hall
    clear hall
    by_cases hkl : k < l.length
    · obtain ⟨b, off, x, rfl, d0, hx⟩ := HL.out.at hb hkl
      have HX : Hid (l[k]? = some x) := hx
      clear hx
      have hki : (k : Int) < (l.length : Int) := by omega
      go_wp2_with (go_at_call 37; refine (crnone_any x _).mono ?_)
      rintro e w1 ⟨rfl, b1⟩
      have hb1 := hb.trans (b1.mono hb.size)
      cases hok : ruleOut x with
      | false =>
        have HO : Hid (ruleOut x = false) := hok
        clear hok
        go_wp2
        go_roundw
        case rel =>
          refine ⟨k + 1, by omega, by go_num, fun j y hj hy => ?_, hb1⟩
          by_cases hjk : j < k
          · exact Hall.out j y hjk hy
          · obtain rfl : j = k := by omega
            rw [HX.out] at hy
            obtain rfl := Option.some.inj hy
            exact HO.out
        case measure => simp [intOf]; omega
      | true =>
        have HF : Hid (l.any ruleOut = true) := by
          show _ = _
          rw [List.any_eq_true]
          exact ⟨x, List.mem_of_getElem? HX.out, hok⟩
        clear hok
        go_wp2
        go_ret
        exact ⟨⟨_, rfl, by rw [HF.out]; simp⟩, hb1⟩
    · have HF : Hid (l.any ruleOut = false) := by
        show _ = _
        rw [List.any_eq_false]
        intro x hx
        obtain ⟨i, hi⟩ := List.mem_iff_getElem?.1 hx
        have := (List.getElem?_eq_some_iff.1 hi).1
        rw [Hall.out i x (by omega) hi]
        decide
      have hki : decide ((k : Int) < (l.length : Int)) = false := decide_eq_false (by omega)
      have hkn : decide (k < l.length) = false := decide_eq_false (by omega)
      go_wp2
      go_ret
      exact ⟨⟨_, rfl, by rw [HF.out]; simp⟩, hb⟩
set_option maxRecDepth 100000 in
set_option maxHeartbeats 2000000 in
theorem containsRule (l : List Int) (ao : Option Addr) (cap : Nat) (w : World) (hl : Stp w (.slice ao l.length cap) l) (h5 : l.length ≤ 5) :
    Calls Tryd.prog 38 #[.slice ao l.length cap, .func (.func 37) #[] #[]] w fun e w' =>
      e = .returned (.bool (l.any ruleOut)) ∧ Below w.heap.size w w' := by
  have h := indexRule l ao cap w hl h5
  clear hl
  go_enter Tryd.func38, Tryd.ntmps38
  go_wp2_with (go_at_call 62; refine h.mono ?_; rintro e w1 ⟨⟨r, rfl, hr⟩, bb⟩; clear h; have HR : Hid (decide (0 ≤ r) = l.any ruleOut) := hr; clear hr)
  go_ret
  exact ⟨ret_bool HR.out, bb⟩
set_option maxRecDepth 100000 in
set_option maxHeartbeats 4000000 in
theorem crnew_no (p : PD) (vc vs vw wv : Value) (most : Int) (w : World) (hfm : Forms w) (hP : Pln w vc vs vw p) (hp : plchk p ≠ 0) :
    Calls Tryd.prog 15 #[plV vc p.ticks vs vw, wv, .int .i64 most] w fun e w' => ∃ x, e = .returned (.tuple #[.pointer x, wErr (plchk p)]) ∧ Below w.heap.size w w' := by
  obtain ⟨ca, cc, rfl⟩ := hP.code.form
  obtain ⟨sa, sc, rfl⟩ := hP.spans.form
  obtain ⟨wa, wc', rfl⟩ := hP.wires.form
  have hA : Below w.heap.size w (w.alloc (.cells #[.slice ca p.code.length cc, .int .i64 p.ticks, .slice sa p.spans.length sc, .slice wa p.wires.length wc'] 26)) := (Below.refl _ _).alloc (Nat.le_refl _) _
  have hc := gnew_no p _ _ _ _ (hfm.all hA) (hP.all hA) hp
  unfold plV at hc ⊢
  rw [wErr_not hp] at hc ⊢
  generalize plchk p = ec at hc hp ⊢
  clear hP hfm
  go_enter Tryd.func15, Tryd.ntmps15
  go_wp2_with (go_at_call 18; refine hc.mono ?_; rintro e w1 ⟨x0, rfl, b1⟩; clear hc)
  go_ret2
  exact ⟨none, rfl, hA.trans (b1.mono hA.size)⟩
set_option maxRecDepth 100000 in
set_option maxHeartbeats 4000000 in
theorem crnew_few (p : PD) (vc vs vw wv : Value) (what : List Int) (most : Int) (w : World) (hfm : Forms w) (hP : Pln w vc vs vw p) (hwv : Stp w wv what) (hp : plchk p = 0) (hl : what.length ≠ p.code.length) :
    Calls Tryd.prog 15 #[plV vc p.ticks vs vw, wv, .int .i64 most] w fun e w' => ∃ x, e = .returned (.tuple #[.pointer x, wErr 3]) ∧ Below w.heap.size w w' := by
  obtain ⟨ca, cc, rfl⟩ := hP.code.form
  obtain ⟨sa, sc, rfl⟩ := hP.spans.form
  obtain ⟨wa, wc', rfl⟩ := hP.wires.form
  obtain ⟨ta, tc, rfl⟩ := hwv.form
  have hx0 := Bx.first w (.slice ca p.code.length cc) p.ticks (.slice sa p.spans.length sc) (.slice wa p.wires.length wc')
  have hc := gnew_ok p _ _ _ _ (hfm.all hx0.below) (hP.all hx0.below) hp
  unfold plV at hc ⊢
  have hlI : (what.length : Int) ≠ (p.code.length : Int) := by omega
  have hne : ((what.length : Int) != (p.code.length : Int)) = true := bne_iff_ne.2 hlI
  have hne2 : ((what.length : Int) == (p.code.length : Int)) = false := beq_eq_false_iff_ne.2 hlI
  have hne3 : (what.length == p.code.length) = false := by simpa using hl
  have hne4 : (what.length != p.code.length) = true := by simpa using hl
  clear hP hfm hp hwv hl hlI
  go_enter Tryd.func15, Tryd.ntmps15
  go_wp2_with (go_at_call 18; refine hc.mono ?_; rintro e w1 ⟨kb, a, rfl, hgk, b1⟩; clear hc hgk; have hx1 := hx0.step b1; have k0 := hx1.c0)
  go_ret2
  first | exact ⟨none, rfl, hx1.below⟩ | exact ⟨⟨none, rfl⟩, hx1.below⟩
/-- A rule is none, or most is out of bounds. -/
theorem rule_cases {what : List Int} {most : Int} (h : ¬ (what.any ruleOut = false ∧ 0 ≤ most ∧ most ≤ 100)) : what.any ruleOut = true ∨ (what.any ruleOut = false ∧ most < 0) ∨ (what.any ruleOut = false ∧ ¬ most < 0 ∧ 100 < most) := by
  cases hq : what.any ruleOut with
  | true => exact Or.inl rfl
  | false =>
    by_cases h0 : most < 0
    · exact Or.inr (Or.inl ⟨rfl, h0⟩)
    · exact Or.inr (Or.inr ⟨rfl, h0, by
        by_cases h1 : 100 < most
        · exact h1
        · exact absurd ⟨hq, by omega, by omega⟩ h⟩)
set_option maxRecDepth 100000 in
set_option maxHeartbeats 4000000 in
theorem crnew_out (p : PD) (vc vs vw wv : Value) (what : List Int) (most : Int) (w : World) (hfm : Forms w) (hP : Pln w vc vs vw p) (hwv : Stp w wv what) (hp : plchk p = 0) (hl : what.length = p.code.length) (ho : ¬ (what.any ruleOut = false ∧ 0 ≤ most ∧ most ≤ 100)) :
    Calls Tryd.prog 15 #[plV vc p.ticks vs vw, wv, .int .i64 most] w fun e w' => ∃ x, e = .returned (.tuple #[.pointer x, wErr 1]) ∧ Below w.heap.size w w' := by
  obtain ⟨ca, cc, rfl⟩ := hP.code.form
  obtain ⟨sa, sc, rfl⟩ := hP.spans.form
  obtain ⟨wa, wc', rfl⟩ := hP.wires.form
  obtain ⟨ta, tc, rfl⟩ := hwv.form
  have hx0 := Bx.first w (.slice ca p.code.length cc) p.ticks (.slice sa p.spans.length sc) (.slice wa p.wires.length wc')
  have hc := gnew_ok p _ _ _ _ (hfm.all hx0.below) (hP.all hx0.below) hp
  have hc5 := (plchk_zero hp).1
  have HCo : Hid (∀ W, Below w.heap.size w W → Calls Tryd.prog 38 #[.slice ta p.code.length tc, .func (.func 37) #[] #[]] W fun e w' => e = .returned (.bool (what.any ruleOut)) ∧ Below W.heap.size W w') := fun W hb => by
    have := containsRule what ta tc W (hwv.every hb) (by omega)
    rw [hl] at this
    exact this
  unfold plV at hc ⊢
  rw [hl]
  have hcs := rule_cases ho
  clear hP hfm hp hwv hl ho
  generalize what.any ruleOut = q at HCo hcs
  rcases hcs with rfl | ⟨rfl, h1⟩ | ⟨rfl, h1, h2⟩
  · go_enter Tryd.func15, Tryd.ntmps15
    go_wp2_with (first | (go_at_call 18; refine hc.mono ?_; rintro e w1 ⟨kb, a, rfl, hgk, b1⟩; clear hc hgk; have hx1 := hx0.step b1; have k0 := hx1.c0) | (go_at_call 38; refine (HCo.out w1 hx1.below).mono ?_; rintro e w2 ⟨rfl, b2⟩; clear HCo))
    go_ret2
    have hb2 := hx1.below.trans (b2.mono hx1.below.size)
    first | exact ⟨none, rfl, hb2⟩ | exact ⟨⟨none, rfl⟩, hb2⟩
  · have h1' : decide (most < 0) = true := decide_eq_true h1
    go_enter Tryd.func15, Tryd.ntmps15
    go_wp2_with (first | (go_at_call 18; refine hc.mono ?_; rintro e w1 ⟨kb, a, rfl, hgk, b1⟩; clear hc hgk; have hx1 := hx0.step b1; have k0 := hx1.c0) | (go_at_call 38; refine (HCo.out w1 hx1.below).mono ?_; rintro e w2 ⟨rfl, b2⟩; clear HCo))
    go_ret2
    have hb2 := hx1.below.trans (b2.mono hx1.below.size)
    first | exact ⟨none, rfl, hb2⟩ | exact ⟨⟨none, rfl⟩, hb2⟩
  · have h1' : decide (most < 0) = false := decide_eq_false h1
    have h2' : decide (100 < most) = true := decide_eq_true h2
    go_enter Tryd.func15, Tryd.ntmps15
    go_wp2_with (first | (go_at_call 18; refine hc.mono ?_; rintro e w1 ⟨kb, a, rfl, hgk, b1⟩; clear hc hgk; have hx1 := hx0.step b1; have k0 := hx1.c0) | (go_at_call 38; refine (HCo.out w1 hx1.below).mono ?_; rintro e w2 ⟨rfl, b2⟩; clear HCo))
    go_ret2
    have hb2 := hx1.below.trans (b2.mono hx1.below.size)
    first | exact ⟨none, rfl, hb2⟩ | exact ⟨⟨none, rfl⟩, hb2⟩
/-- The rooms' numbers, so far. -/
def keptL (what : List Int) (p : PD) (j : Nat) : List (Int × Int × Int) := (List.range j).map fun i => (what.getD i 0, ((p.code.getD i []).length : Int), 0)
theorem keptL_succ (what : List Int) (p : PD) (j : Nat) : keptL what p (j + 1) = keptL what p j ++ [(what.getD j 0, ((p.code.getD j []).length : Int), 0)] := by
  unfold keptL
  rw [List.range_succ, List.map_append]
  rfl
theorem keptL_at (what : List Int) (p : PD) {j i : Nat} (h : i < j) : (keptL what p j)[i]? = some (what.getD i 0, ((p.code.getD i []).length : Int), 0) := by
  unfold keptL
  rw [List.getElem?_map, List.getElem?_range h]
  rfl
/-- Its block. -/
def CB (W : World) (b kb : Nat) (qv : Value) (most : Int) : Prop := W.heap[b]? = some (.cells #[.pointer (some ⟨kb, 0, none⟩), qv, .int .i64 most] 101 (0, 0))
theorem CB.cs {W : World} {b kb : Nat} {qv : Value} {most : Int} (h : CB W b kb qv most) : W.cell? ⟨b, 0, none⟩ = some (.pointer (some ⟨kb, 0, none⟩)) ∧ W.cell? ⟨b, 1, none⟩ = some qv ∧ W.cell? ⟨b, 2, none⟩ = some (.int .i64 most) := by
  have e : W.heap[b]? = _ := h
  simp [World.cell?, e]
theorem CB.free {W : World} {b kb : Nat} {qv : Value} {most : Int} (h : CB W b kb qv most) (o : Nat) : W.frozen? ⟨b, o, none⟩ = false := by
  have e : W.heap[b]? = _ := h
  simp [World.frozen?, e]
theorem CB.rooms {W : World} {b kb : Nat} {qv : Value} {most : Int} (h : CB W b kb qv most) (v : Value) : CB (W.setCell ⟨b, 1, none⟩ v) b kb v most := by
  have e : W.heap[b]? = _ := h
  unfold CB
  simp [World.setCell, Array.getElem?_modify, e]
theorem infoKept : (Tryd.prog.info? 103).map (fun i => (i.zero, i.size, i.bytes)) = some (some (.agg #[.int .i64 0, .int .i64 0, .int .i64 0]), 3, 24) := by kernel_rfl
theorem three_new {w : World} {k : Nat} (hk : k = w.heap.size) (x y z : Int) (t : TypeId) : ∀ j u, [Value.int .i64 x, .int .i64 y, .int .i64 z][j]? = some u → (w.alloc (.cells #[.int .i64 x, .int .i64 y, .int .i64 z] t)).cell? ((⟨k, 0, none⟩ : Addr).add j) = some u := by
  intro j u hj
  subst hk
  rw [Addr.add_lit, Nat.zero_add]
  match j, hj with
  | 0, hj => simp at hj; subst hj; simp
  | 1, hj => simp at hj; subst hj; simp
  | 2, hj => simp at hj; subst hj; simp
  | j + 3, hj => simp at hj
/-- A care that is being made: the numbers of so many rooms. -/
structure NC (W0 W : World) (cb kb : Nat) (p : PD) (what : List Int) (most : Int) (qv : Value) (j : Nat) : Prop where
  tk : KTouch [cb] W0 W
  cl : cb < W0.heap.size
  blk : CB W cb kb qv most
  row : W.ownsRow W0.heap.size 103 3 qv j (spCells (keptL what p j))
theorem NC.first {W0 : World} {cb kb : Nat} {p : PD} {what : List Int} {most : Int} (hc : cb < W0.heap.size) (h : CB W0 cb kb (.slice none 0 0) most) : NC W0 W0 cb kb p what most (.slice none 0 0) 0 :=
  ⟨KTouch.refl _ _, hc, h, World.ownsRow_nil _ _ _ _⟩
/-- One room more. -/
theorem NC.more {W0 W w1 wa : World} {cb kb j : Nat} {p : PD} {what : List Int} {most : Int} {qv qv' : Value} (h : NC W0 W cb kb p what most qv j) (b1 : Below W.heap.size W w1) (hg : w1.grownBy wa qv.ownBlock)
    (hown : wa.ownsRow W0.heap.size 103 3 qv' (j + 1) (spCells (keptL what p j) ++ [.int .i64 (what.getD j 0), .int .i64 ((p.code.getD j []).length : Nat), .int .i64 0])) : NC W0 (wa.setCell ⟨cb, 1, none⟩ qv') cb kb p what most qv' (j + 1) := by
  have hcr : ∀ k, qv.ownBlock = some k → W0.heap.size ≤ k := fun k hk => (h.row.lt k hk).1
  have hs := h.tk.size
  have h1 := b1.size
  refine ⟨(h.tk.grow b1 hg hcr).trans (KTouch.set _ (by simp) 1 _), h.cl, CB.rooms (qv := qv) ?_ qv', ?_⟩
  · have hlt : cb < W.heap.size := Nat.lt_of_lt_of_le h.cl hs
    exact (hg.block cb (by omega) (fun e => by have := hcr cb e.symm; have := h.cl; omega)).trans ((b1.block cb hlt).trans h.blk)
  · rw [keptL_succ, spCells_snoc]
    exact ownsRow_setCell_below hown (a := ⟨cb, 1, none⟩) h.cl qv'
/-- All is there: a care. -/
theorem NC.done {w W1 W0 W : World} {cb kb : Nat} {p : PD} {what : List Int} {most : Int} {qv : Value} {a : GW} (hw : w.heap.size ≤ W1.heap.size) (hcb : cb = W1.heap.size) (hk : GK W1 w.heap.size p (newK p) kb a) (hb : Below W1.heap.size W1 W0) (h : NC W0 W cb kb p what most qv p.code.length) (hp : plchk p = 0) : ∃ x : CW, GC W w.heap.size p what most (newC p) cb x := by
  have hne0 := (plchk_zero hp).2.1
  have hk0 := hk.all hb
  have hcn : cb ∉ a.F kb := fun hm => by have := hk.flt cb hm; omega
  have hk1 := hk0.frame h.tk (fun m hm => by rw [List.mem_singleton] at hm; subst hm; exact hcn)
  have hs0 := hb.size
  have hcl := h.cl
  have hs := h.tk.size
  obtain ⟨c0, c1, c2⟩ := h.blk.cs
  have hrow := h.row
  have hcs := @World.ownsRow.cells _ _ _ _ _ _ _ hrow
  rcases hrow.2 with ⟨_, h0⟩ | ⟨qb, qcap, cur, rfl, hq0, hq1, _⟩
  · exact absurd h0 hne0
  · have hqlt : qb < W.heap.size := (Array.getElem?_eq_some_iff.1 hq1).1
    refine ⟨⟨kb, a, qb, qcap⟩, c0, ?_, c2, hk1, fun i t ht => ?_, fun o => ?_, ⟨by omega, by show _ ≤ qb; omega⟩, ⟨by omega, hqlt⟩, ⟨by show cb ≠ qb; omega, hcn, fun hm => ?_⟩⟩
    · have : (newC p).ts.length = p.code.length := by simp [newC]
      rw [this]
      exact c1
    · have hil : i < p.code.length := by
        have := (List.getElem?_eq_some_iff.1 ht).1
        simpa [newC] using this
      have ht0 : t = 0 := by
        unfold newC at ht
        simp only [List.getElem?_map] at ht
        obtain ⟨_, _, rfl⟩ := Option.map_eq_some_iff.1 ht
        rfl
      subst ht0
      obtain ⟨h1, h2, h3⟩ := spCells_at _ i _ (keptL_at what p hil)
      have hat : ∀ j u, (spCells (keptL what p p.code.length))[j]? = some u → W.cell? ⟨qb, j, none⟩ = some u := fun j u hu => by
        have := hcs rfl j u hu
        rwa [Addr.add_lit, Nat.zero_add] at this
      exact ⟨hat _ _ h1, hat _ _ h2, hat _ _ h3⟩
    · simp [World.frozen?, hq1]
    · have := hk.flt qb hm
      omega
set_option maxRecDepth 100000 in
set_option maxHeartbeats 16000000 in
theorem crnew_ok (p : PD) (vc vs vw wv : Value) (what : List Int) (most : Int) (w : World) (hfm : Forms w) (hP : Pln w vc vs vw p) (hwv : Stp w wv what) (hcE : carE p what most = 0) :
    Calls Tryd.prog 15 #[plV vc p.ticks vs vw, wv, .int .i64 most] w fun e w' => ∃ cb x, e = .returned (.tuple #[.pointer (some ⟨cb, 0, none⟩), .nilIface]) ∧ GC w' w.heap.size p what most (newC p) cb x ∧ Below w.heap.size w w' := by
  obtain ⟨hp, hwl, hwr, hm0, hm1⟩ := carE_zero hcE
  obtain ⟨ca, cc, rfl⟩ := hP.code.form
  obtain ⟨sa, sc, rfl⟩ := hP.spans.form
  obtain ⟨wa, wc', rfl⟩ := hP.wires.form
  obtain ⟨ta, tc, rfl⟩ := hwv.form
  have hx0 := Bx.first w (.slice ca p.code.length cc) p.ticks (.slice sa p.spans.length sc) (.slice wa p.wires.length wc')
  have hc := gnew_ok p _ _ _ _ (hfm.all hx0.below) (hP.all hx0.below) hp
  have hc5 := (plchk_zero hp).1
  have hany : what.any ruleOut = false := by
    rw [List.any_eq_false]
    intro n hn
    have := hwr n hn
    unfold ruleOut
    rw [Bool.not_eq_true, Bool.or_eq_false_iff, decide_eq_false_iff_not, decide_eq_false_iff_not]
    omega
  have HCo : Hid (∀ W, Below w.heap.size w W → Calls Tryd.prog 38 #[.slice ta p.code.length tc, .func (.func 37) #[] #[]] W fun e w' => e = .returned (.bool false) ∧ Below W.heap.size W w') := fun W hb => by
    have := containsRule what ta tc W (hwv.every hb) (by omega)
    rw [hwl, hany] at this
    exact this
  unfold plV at hc ⊢
  have HP : Hid (Pln w (.slice ca p.code.length cc) (.slice sa p.spans.length sc) (.slice wa p.wires.length wc') p) := hP
  have HWV : Hid (Stp w (.slice ta what.length tc) what) := hwv
  have HWL : Hid (what.length = p.code.length) := hwl
  have HPZ : Hid (plchk p = 0) := hp
  have h1' : decide (most < 0) = false := decide_eq_false (by omega)
  have h2' : decide (100 < most) = false := decide_eq_false (by omega)
  rw [hwl]
  clear hP hfm hp hwv hwl hcE hwr hany
  go_enter Tryd.func15, Tryd.ntmps15
  go_upto_region 9 with (first | (go_at_call 18; refine hc.mono ?_; rintro e w1 ⟨kb, a, rfl, hgk, b1⟩; clear hc; have hx1 := hx0.step b1; have k0 := hx1.c0; have HGK : Hid (GK w1 _ p (newK p) kb a) := hgk; clear hgk) | (go_at_call 38; refine (HCo.out w1 hx1.below).mono ?_; rintro e w2 ⟨rfl, b2⟩; clear HCo))
  have hx2 := hx1.step b2
  have HG2 : Hid (GK w2 w.heap.size p (newK p) kb a) := (HGK.out.all b2).lower (by simp)
  have hs2 := hx2.size
  clear k0 HGK hx1 b1 b2
  go_upto_region 10 with fail
  have hB0 : Below w2.heap.size w2 (w2.alloc (.cells #[.pointer (some ⟨kb, 0, none⟩), .slice none 0 0, .int .i64 most] 101)) := (Below.refl _ _).alloc (Nat.le_refl _) _
  have hCB : CB (w2.alloc (.cells #[.pointer (some ⟨kb, 0, none⟩), .slice none 0 0, .int .i64 most] 101)) w2.heap.size kb (.slice none 0 0) most := World.alloc_heap_new _ _
  have hclt : w2.heap.size < (w2.alloc (.cells #[.pointer (some ⟨kb, 0, none⟩), .slice none 0 0, .int .i64 most] 101)).heap.size := by simp
  generalize w2.alloc (.cells #[.pointer (some ⟨kb, 0, none⟩), .slice none 0 0, .int .i64 most] 101) = W0 at hB0 hCB hclt ⊢
  have hxW := hx2.step hB0
  have HB0 : Hid (Below w2.heap.size w2 W0) := hB0
  obtain ⟨cb, hcb⟩ : ∃ cb, cb = w2.heap.size := ⟨_, rfl⟩
  have HCBE : Hid (cb = w2.heap.size) := hcb
  have hcbw : w.heap.size + 1 ≤ cb := by omega
  rw [← hcb] at hCB hclt ⊢
  clear hcb hB0
  go_upto_region 11 with fail
  go_loopw [47] (fun i wr => ∃ (j : Nat) (qv : Value), j ≤ p.code.length ∧ i = .int .i64 j ∧ NC W0 wr cb kb p what most qv j) (fun i _ => p.code.length - (intOf i).toNat)
  case atStart => exact ⟨0, _, Nat.zero_le _, rfl, NC.first hclt hCB⟩
  case round =>
    clear hCB
    obtain ⟨j, qv, hjl, rfl, hn⟩ := hrel
    have hbx : Bx w wr (.slice ca p.code.length cc) p.ticks (.slice sa p.spans.length sc) (.slice wa p.wires.length wc') := Below.trans hxW (hn.tk.below (fun b hb => by rw [List.mem_singleton] at hb; omega) hxW.size)
    by_cases hj : j < p.code.length
    · have hji : (j : Int) < (p.code.length : Int) := by omega
      obtain ⟨tb, tq, wn, rfl, hwc, hwx⟩ := HWV.out.at hbx.below (show j < what.length by have := HWL.out; omega)
      obtain ⟨kc, ko, ua, un, ug, c, rfl, hkl, hcy, hcd, rfl, _⟩ := HP.out.code.at hj
      replace hcd := (hbx.below.cell (p := ⟨kc, _, none⟩) hkl).trans hcd
      have HWN : Hid (what.getD j 0 = wn ∧ p.code.getD j [] = c) := ⟨by simp [List.getD, hwx], by simp [List.getD, hcy]⟩
      have HN : Hid (NC W0 wr cb kb p what most qv j) := hn
      have k0 := hbx.c0
      have c1 := hn.blk.cs.2.1
      have hcr9 : cb < wr.heap.size := Nat.lt_of_lt_of_le hn.cl hn.tk.size
      have hw9 : w.heap.size < wr.heap.size := hbx.size
      clear hn hcy hwx hbx
      go_upto_region 13 with fail
      have bQ : Below wr.heap.size wr wr.drew := (Below.refl _ _).drew
      refine wp_region_popped (fun W => W.cell? ⟨cb, 1, none⟩ = some qv ∧ W.cell? ⟨w.heap.size, 0, none⟩ = some (.slice (some ⟨kc, ko, none⟩) p.code.length cc) ∧ W.cell? ⟨kc, ko + j, none⟩ = some (.slice ua c.length ug)) (by kernel_rfl) rfl (by decide +kernel) ⟨c1, k0, hcd⟩ (fun hHeld => ?_)
      simp only [List.pop_toArray, List.dropLast_cons_cons, List.dropLast_singleton, List.size_toArray, List.length_cons, List.length_nil, Nat.reduceAdd, Array.replicate_succ, Array.replicate_zero, List.push_toArray, List.nil_append, List.cons_append]
      refine wpAnyH_take (i := 0) (v := ?_) rfl (by decide +kernel) (by decide +kernel) (by decide +kernel) (fun _ _ _ h => h) (Or.inl ⟨by rfl, ?_⟩) (by assumption) ?_
      rotate_left
      · intro W hSw
        try dsimp only at hSw
        obtain ⟨hS1, hS2, hS3⟩ := hSw
        go_simp
        try with_reducible rfl
      simp only [Act.put, List.setIfInBounds_toArray, List.set_cons_zero]
      refine wpAnyH_take (i := 1) (v := ?_) rfl (by decide +kernel) (by decide +kernel) (by decide +kernel) (fun _ _ _ h => h) (Or.inl ⟨by rfl, ?_⟩) (by assumption) ?_
      rotate_left
      · intro W hSw
        try dsimp only at hSw
        obtain ⟨hS1, hS2, hS3⟩ := hSw
        go_simp
        try with_reducible rfl
      simp only [Act.put, List.setIfInBounds_toArray, List.set_cons_zero, List.set_cons_succ]
      refine wpAnyH_take (i := 2) (v := ?_) rfl (by decide +kernel) (by decide +kernel) (by decide +kernel) (fun _ _ _ h => h) (Or.inl ⟨by rfl, ?_⟩) (by assumption) ?_
      rotate_left
      · intro W hSw
        try dsimp only at hSw
        obtain ⟨hS1, hS2, hS3⟩ := hSw
        go_simp
        try with_reducible rfl
      simp only [Act.put, List.setIfInBounds_toArray, List.set_cons_zero, List.set_cons_succ]
      refine wpAnyH_take (i := 3) (v := ?_) rfl (by decide +kernel) (by decide +kernel) (by decide +kernel) (fun _ _ _ h => h) (Or.inl ⟨by rfl, ?_⟩) (by assumption) ?_
      rotate_left
      · intro W hSw
        try dsimp only at hSw
        obtain ⟨hS1, hS2, hS3⟩ := hSw
        go_simp
        try with_reducible rfl
      simp only [Act.put, List.setIfInBounds_toArray, List.set_cons_zero, List.set_cons_succ]
      refine wpAnyH_take (i := 4) (v := ?_) rfl (by decide +kernel) (by decide +kernel) (by decide +kernel) (fun _ _ _ h => h) (Or.inl ⟨by rfl, ?_⟩) (by assumption) ?_
      rotate_left
      · intro W hSw
        try dsimp only at hSw
        obtain ⟨hS1, hS2, hS3⟩ := hSw
        go_simp
        try with_reducible rfl
      simp only [Act.put, List.setIfInBounds_toArray, List.set_cons_zero, List.set_cons_succ]
      refine wpAnyH_take (i := 5) (v := ?_) rfl (by decide +kernel) (by decide +kernel) (by decide +kernel) (fun _ _ _ h => h) (Or.inl ⟨by rfl, ?_⟩) (by assumption) ?_
      rotate_left
      · intro W hSw
        try dsimp only at hSw
        obtain ⟨hS1, hS2, hS3⟩ := hSw
        go_simp
        try with_reducible rfl
      simp only [Act.put, List.setIfInBounds_toArray, List.set_cons_zero, List.set_cons_succ]
      refine wpAnyH_take (i := 6) (v := ?_) rfl (by decide +kernel) (by decide +kernel) (by decide +kernel) (fun _ _ _ h => h) (Or.inl ⟨by rfl, ?_⟩) (by assumption) ?_
      rotate_left
      · intro W hSw
        try dsimp only at hSw
        obtain ⟨hS1, hS2, hS3⟩ := hSw
        go_simp
        try with_reducible rfl
      simp only [Act.put, List.setIfInBounds_toArray, List.set_cons_zero, List.set_cons_succ]
      refine wpAnyH_take (i := 7) (v := ?_) rfl (by decide +kernel) (by decide +kernel) (by decide +kernel) (fun _ _ _ h => h) (Or.inl ⟨by rfl, ?_⟩) (by assumption) ?_
      rotate_left
      · intro W hSw
        try dsimp only at hSw
        obtain ⟨hS1, hS2, hS3⟩ := hSw
        go_simp
        try with_reducible rfl
      simp only [Act.put, List.setIfInBounds_toArray, List.set_cons_zero, List.set_cons_succ]
      refine wpAnyH_take (i := 8) (v := ?_) rfl (by decide +kernel) (by decide +kernel) (by decide +kernel) (fun _ _ _ h => h) (Or.inl ⟨by rfl, ?_⟩) (by assumption) ?_
      rotate_left
      · intro W hSw
        try dsimp only at hSw
        obtain ⟨hS1, hS2, hS3⟩ := hSw
        go_simp
        try with_reducible rfl
      simp only [Act.put, List.setIfInBounds_toArray, List.set_cons_zero, List.set_cons_succ]
      refine wpAnyH_take (i := 9) (v := ?_) rfl (by decide +kernel) (by decide +kernel) (by decide +kernel) (fun _ _ _ h => h) (Or.inl ⟨by rfl, ?_⟩) (by assumption) ?_
      rotate_left
      · intro W hSw
        try dsimp only at hSw
        obtain ⟨hS1, hS2, hS3⟩ := hSw
        go_simp
        try with_reducible rfl
      simp only [Act.put, List.setIfInBounds_toArray, List.set_cons_zero, List.set_cons_succ]
      refine wpAnyH_take (i := 10) (v := ?_) rfl (by decide +kernel) (by decide +kernel) (by decide +kernel) (fun _ _ _ h => h) (Or.inl ⟨by rfl, ?_⟩) (by assumption) ?_
      rotate_left
      · intro W hSw
        try dsimp only at hSw
        obtain ⟨hS1, hS2, hS3⟩ := hSw
        go_simp
        try with_reducible rfl
      simp only [Act.put, List.setIfInBounds_toArray, List.set_cons_zero, List.set_cons_succ]
      refine wpAnyH_take (i := 11) (v := ?_) rfl (by decide +kernel) (by decide +kernel) (by decide +kernel) (fun _ _ _ h => h) (Or.inl ⟨by rfl, ?_⟩) (by assumption) ?_
      rotate_left
      · intro W hSw
        try dsimp only at hSw
        obtain ⟨hS1, hS2, hS3⟩ := hSw
        go_simp
        try with_reducible rfl
      simp only [Act.put, List.setIfInBounds_toArray, List.set_cons_zero, List.set_cons_succ]
      refine wpAnyH_take (i := 12) (v := ?_) rfl (by decide +kernel) (by decide +kernel) (by decide +kernel) (fun _ _ _ h => h) (Or.inl ⟨by rfl, ?_⟩) (by assumption) ?_
      rotate_left
      · intro W hSw
        try dsimp only at hSw
        obtain ⟨hS1, hS2, hS3⟩ := hSw
        go_simp
        try with_reducible rfl
      simp only [Act.put, List.setIfInBounds_toArray, List.set_cons_zero, List.set_cons_succ]
      refine wpAnyH_ready (rs := [13]) (by decide +kernel) (by simp) ?_
      refine AllReadyH.cons (o := _) rfl (fun K hK => ?_) AllReadyH.nil
      go_simp
      have b9 : Below wr.heap.size wr (wr.drew.alloc (.cells #[.int .i64 wn, .int .i64 (c.length : Nat), .int .i64 0] 103)) := bQ.alloc (Nat.le_refl _) _
      have hq9 : ∀ W, Below wr.heap.size wr W → W.cell? ⟨cb, 1, none⟩ = some qv ∧ W.cell? ⟨w.heap.size, 0, none⟩ = some (.slice (some ⟨kc, ko, none⟩) p.code.length cc) ∧ W.cell? ⟨kc, ko + j, none⟩ = some (.slice ua c.length ug) := fun W hb => ⟨(hb.cell (p := ⟨cb, 1, none⟩) hcr9).trans c1, (hb.cell (p := ⟨w.heap.size, 0, none⟩) hw9).trans k0, (hb.cell (p := ⟨kc, ko + j, none⟩) (wlt hcd)).trans hcd⟩
      refine hK.out _ _ (hq9 _ b9) (fun hHeld => ?_)
      clear hK K
      simp only [List.setIfInBounds_toArray, List.set_cons_zero, List.set_cons_succ]
      refine wpAnyH_ready (rs := [14]) (by decide +kernel) (by simp) ?_
      refine AllReadyH.cons (o := _) rfl (fun K hK => ?_) AllReadyH.nil
      obtain ⟨iT, hiT, hz1, hz2, hz3⟩ := info3 infoKept
      have hro9 := own_below HN.out.row b9 (Nat.le_refl _)
      have hs09 : W0.heap.size ≤ (wr.drew.alloc (.cells #[.int .i64 wn, .int .i64 (c.length : Nat), .int .i64 0] 103)).heap.size := Nat.le_trans HN.out.tk.size b9.size
      obtain ⟨qv2, wa9, hra, hown9, hgr9, hnw9⟩ := run_append_at (P := Tryd.prog) (wr.drew.alloc (.cells #[.int .i64 wn, .int .i64 (c.length : Nat), .int .i64 0] 103)) 99 99 W0.heap.size 103 iT _ 3 24 (by kernel_rfl) hiT hz1 hz2 hz3 rfl (by decide) qv j (spCells (keptL what p j)) hro9 ⟨wr.drew.heap.size, 0, none⟩ 1 1 [.int .i64 wn, .int .i64 (c.length : Nat), .int .i64 0] rfl (three_new rfl _ _ _ _) (by simp [Value.oneCell']) (by have : maxLen = 9223372036854775807 := rfl; omega) (by omega) hs09
      clear hiT hz1 hz2 hz3
      obtain ⟨gv, ck, rfl⟩ : ∃ g cap, qv2 = .slice (some ⟨g, 0, none⟩) (j + 1) cap := own_succ hown9
      have hcr : ∀ k, qv.ownBlock = some k → W0.heap.size ≤ k := fun k hk => (HN.out.row.lt k hk).1
      have hblk9 : wa9.heap[cb]? = wr.heap[cb]? := (hgr9.block cb (Nat.lt_of_lt_of_le hcr9 b9.size) (fun e => by have := hcr cb e.symm; have := HN.out.cl; omega)).trans (b9.block cb hcr9)
      have s10 : wa9.cell? ⟨cb, 1, none⟩ = some qv := (World.cell?_of_block (w := wr) (a := ⟨cb, 1, none⟩) hblk9).trans c1
      have f10 : wa9.frozen? ⟨cb, 1, none⟩ = false := (World.frozen?_of_block (w := wr) (a := ⟨cb, 1, none⟩) hblk9).trans (HN.out.blk.free 1)
      have hold9 : ∀ k, k < W0.heap.size → k < wr.heap.size → wa9.heap[k]? = wr.heap[k]? := fun k h1 h2 => (hgr9.block k (Nat.lt_of_lt_of_le h2 b9.size) (fun e => by have := hcr k e.symm; omega)).trans (b9.block k h2)
      have hw0 : w.heap.size < W0.heap.size := by have := HN.out.cl; omega
      have hk0 : kc < W0.heap.size := by omega
      have s11 : wa9.cell? ⟨w.heap.size, 0, none⟩ = some (.slice (some ⟨kc, ko, none⟩) p.code.length cc) := (World.cell?_of_block (w := wr) (a := ⟨w.heap.size, 0, none⟩) (hold9 _ hw0 hw9)).trans k0
      have s12 : wa9.cell? ⟨kc, ko + j, none⟩ = some (.slice ua c.length ug) := (World.cell?_of_block (w := wr) (a := ⟨kc, ko + j, none⟩) (hold9 _ hk0 (wlt hcd))).trans hcd
      have HR9 : Hid (NC W0 (wa9.setCell ⟨cb, 1, none⟩ (.slice (some ⟨gv, 0, none⟩) (j + 1) ck)) cb kb p what most (.slice (some ⟨gv, 0, none⟩) (j + 1) ck) (j + 1)) := HN.out.more b9 hgr9 (by rw [HWN.out.1, HWN.out.2]; exact hown9)
      refine step_append_eq rfl (.tmp 56) (.tmp 65) 99 rfl qv (.slice (some ⟨wr.drew.heap.size, 0, none⟩) 1 1) rfl rfl (.slice (some ⟨gv, 0, none⟩) (j + 1) ck) wa9 hra ?_
      refine hK.out _ _ ⟨s10, s11, s12⟩ (fun hHeld => ?_)
      clear hK K
      simp only [Act.put, List.setIfInBounds_toArray, List.set_cons_zero, List.set_cons_succ]
      refine wpAnyH_take (i := 15) (v := ?_) rfl (by decide +kernel) (by decide +kernel) (by decide +kernel) (fun _ _ _ h => h) (Or.inl ⟨by rfl, ?_⟩) (by assumption) ?_
      rotate_left
      · intro W hSw
        try dsimp only at hSw
        obtain ⟨hS1, hS2, hS3⟩ := hSw
        go_simp
        try with_reducible rfl
      simp only [Act.put, List.setIfInBounds_toArray, List.set_cons_zero, List.set_cons_succ]
      refine wpAnyH_take (i := 16) (v := ?_) rfl (by decide +kernel) (by decide +kernel) (by decide +kernel) (fun _ _ _ h => h) (Or.inl ⟨by rfl, ?_⟩) (by assumption) ?_
      rotate_left
      · intro W hSw
        try dsimp only at hSw
        obtain ⟨hS1, hS2, hS3⟩ := hSw
        go_simp
        try with_reducible rfl
      simp only [Act.put, List.setIfInBounds_toArray, List.set_cons_zero, List.set_cons_succ]
      refine wpAnyH_done (by decide +kernel) ?_ _
      show Oper.wp _ _ _ _ _ _
      go_simp
      clear hra hown9 hgr9 hnw9 s11 s12 hHeld b9 hro9 hs09 hblk9 hq9 hold9 bQ
      go_wp2
      go_roundw
      case rel => exact ⟨j + 1, _, hj, by go_num, HR9.out⟩
      case measure => simp [intOf]; omega
    · have hji : decide ((j : Int) < (p.code.length : Int)) = false := decide_eq_false (by omega)
      have hjn : decide (j < p.code.length) = false := decide_eq_false (by omega)
      obtain rfl : j = p.code.length := by omega
      have HD : Hid (∃ x : CW, GC wr w.heap.size p what most (newC p) cb x) := NC.done (by omega) HCBE.out HG2.out HB0.out hn HPZ.out
      have HB : Hid (Below w.heap.size w wr) := hbx.below
      clear hn
      go_wp2
      go_ret2
      obtain ⟨x, hx⟩ := HD.out
      exact ⟨cb, x, rfl, hx, HB.out⟩
end Go.Proofs.YtajfgmlockjmhafDoor
namespace Go.Proofs.YtajfgmlockjmhafDoor
open Go.RowKit

/-- A care of package care, made since w0, and all its blocks. -/
def KC (w0 w : World) (p : PD) (what : List Int) (most : Int) (d : CD) (cb : Nat) (F : List Nat) : Prop := ∃ x : CW, GC w w0.heap.size p what most d cb x ∧ F = x.F cb ∧ Below w0.heap.size w0 w
def gcar {G : World → Prop} (hG : ∀ w, G w → Forms w) (hall : ∀ w w', G w → Below w.heap.size w w' → G w') : CarC G where
  K := KC
  all := hall
  since := fun ⟨_, _, _, hb⟩ => hb
  ge := fun ⟨_, h, hF, _⟩ g hg => by
    subst hF
    exact ⟨h.fge g hg, h.flt g hg⟩
  lower := fun h1 ⟨x, h, hF, hb⟩ => ⟨x, h.lower h1.size, hF, h1.trans (hb.mono h1.size)⟩
  frame := fun ⟨x, h, hF, hb⟩ ht hM => by
    subst hF
    exact ⟨x, h.frame ht (fun m hm => (hM m hm).1), rfl, hb.trans (ht.below (fun m hm => (hM m hm).2) hb.size)⟩
  new := fun p vc vs vw wv what most W hg hP hwv hc => by
    refine (crnew_ok p vc vs vw wv what most W (hG W hg) hP hwv hc).mono ?_
    rintro e w' ⟨cb, x, rfl, h, hb⟩
    exact ⟨cb, _, rfl, x, h, rfl, hb⟩
  no := fun p vc vs vw wv what most W hg hP hwv hc => by
    by_cases h1 : plchk p = 0
    · by_cases h2 : what.length = p.code.length
      · have hno : ¬ (what.any ruleOut = false ∧ 0 ≤ most ∧ most ≤ 100) := fun ⟨a1, a2, a3⟩ => hc (by
          unfold carE
          rw [if_pos h1, if_pos h2, if_neg (by rw [a1]; decide), if_neg (by omega)])
        have he : carE p what most = 1 := by
          unfold carE
          rw [if_pos h1, if_pos h2]
          by_cases h3 : what.any ruleOut = true
          · rw [if_pos h3]
          · rw [if_neg h3]
            by_cases h4 : most < 0 ∨ 100 < most
            · rw [if_pos h4]
            · exact absurd ⟨by simpa using h3, by omega, by omega⟩ hno
        rw [he]
        exact crnew_out p vc vs vw wv what most W (hG W hg) hP hwv h1 h2 hno
      · have he : carE p what most = 3 := by
          unfold carE
          rw [if_pos h1, if_neg h2]
        rw [he]
        exact crnew_few p vc vs vw wv what most W (hG W hg) hP hwv h1 h2
    · have he : carE p what most = plchk p := by
        unfold carE
        rw [if_neg h1]
      rw [he]
      exact crnew_no p vc vs vw wv most W (hG W hg) hP h1
  tick := fun {w0 W p what most d cb F} hg ⟨x, h, hF, hb⟩ hc hok ht => by
    subst hF
    refine (crtick_any p what most d cb w0.heap.size x W ((hG w0 hg).all hb) h hb.size (fun W2 hb2 => (hG w0 hg).all (hb.trans hb2)) hc hok ht).mono ?_
    rintro e w' ⟨rfl, x', h1, h2, h3⟩
    exact ⟨rfl, _, ⟨x', h1, rfl, hb.trans (h2.below h.fge hb.size)⟩, h2, h3⟩
  state := fun {w0 W p what most d cb F} r ⟨x, h, _, _⟩ _ _ => crstate_any p what most d cb _ x r W h
  times := fun {w0 W p what most d cb F} r ⟨x, h, _, _⟩ hok _ => crtimes_any p what most d cb _ x r W h (by rw [hok.tl, hok.k.rl])
end Go.Proofs.YtajfgmlockjmhafDoor
