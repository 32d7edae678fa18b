/-
  Parse: a text as a plan, line by line.
-/
import Derived.Test.YtamnfadngbbaeacGreatDoorPlTake
import Derived.Test.YtamnfadngbbaeacGreatDoorSeqsA
namespace Go.Proofs.YtamnfadngbbaeacGreatDoor
open Go.RowKit Go.Shelf
attribute [local go_sem] Oper.semAt_some

/-- A plan's box, whole. -/
def Box4 (W : World) (b : Nat) (x0 x1 x2 x3 : Value) : Prop := W.heap[b]? = some (.cells #[x0, x1, x2, x3] 26 (0, 0))
theorem Box4.lt {W : World} {b : Nat} {x0 x1 x2 x3 : Value} (h : Box4 W b x0 x1 x2 x3) : b < W.heap.size := (Array.getElem?_eq_some_iff.1 h).1
theorem Box4.cs {W : World} {b : Nat} {x0 x1 x2 x3 : Value} (h : Box4 W b x0 x1 x2 x3) : W.cell? ⟨b, 0, none⟩ = some x0 ∧ W.cell? ⟨b, 1, none⟩ = some x1 ∧ W.cell? ⟨b, 2, none⟩ = some x2 ∧ W.cell? ⟨b, 3, none⟩ = some x3 := by
  have e : W.heap[b]? = _ := h
  simp [World.cell?, e]
theorem Box4.fs {W : World} {b : Nat} {x0 x1 x2 x3 : Value} (h : Box4 W b x0 x1 x2 x3) : W.frozen? ⟨b, 0, none⟩ = false ∧ W.frozen? ⟨b, 1, none⟩ = false ∧ W.frozen? ⟨b, 2, none⟩ = false ∧ W.frozen? ⟨b, 3, none⟩ = false := by
  have e : W.heap[b]? = _ := h
  simp [World.frozen?, e]
theorem Box4.kept {W W' : World} {row : Option Nat} {b : Nat} {x0 x1 x2 x3 : Value} (h : Box4 W b x0 x1 x2 x3) (hg : W.grownBy W' row) (hne : some b ≠ row) : Box4 W' b x0 x1 x2 x3 := (hg.block b h.lt hne).trans h
theorem Box4.set {W : World} {b : Nat} {x0 x1 x2 x3 : Value} (h : Box4 W b x0 x1 x2 x3) (y0 y1 y2 y3 : Value) : Box4 ((((W.setCell ⟨b, 0, none⟩ y0).setCell ⟨b, 1, none⟩ y1).setCell ⟨b, 2, none⟩ y2).setCell ⟨b, 3, none⟩ y3) b y0 y1 y2 y3 := by
  have e : W.heap[b]? = _ := h
  unfold Box4
  simp [World.setCell, Array.getElem?_modify, e]
theorem steady_box4 {β : Type} {B Bi : Nat} (b : Nat) (x0 x1 x2 x3 : Value) (hne : b ≠ Bi) : Steady B Bi (fun (_ : β) W => Box4 W b x0 x1 x2 x3) := fun s W W' row hs hg hr =>
  hs.kept hg (fun e => by
    rcases hr b e.symm with h | ⟨_, _, ho, hc⟩
    · exact hne h
    · rw [show W.heap[b]? = _ from hs] at ho; cases ho; cases hc)
theorem dr_steady {B Bi base pb : Nat} {d : PD} {k : Nat} {vc vs vw : Value} {us : List Value} {W W' : World} {row : Option Nat} (h : Dr W base pb d k vc vs vw us) (hg : W.grownBy W' row) (hr : ∀ r, row = some r → r = Bi ∨ (B ≤ r ∧ ∃ o : Obj, W.heap[r]? = some o ∧ o.isCells = false)) (hb : Bi < base) (hne : pb ≠ Bi) : Dr W' base pb d k vc vs vw us := by
  have hpb : pb < W.heap.size := Nat.lt_of_lt_of_le h.rp.lt h.rp.le
  have hblk : W'.heap[pb]? = W.heap[pb]? := hg.block pb hpb (fun e => by
    rcases hr pb e.symm with h1 | ⟨_, o, ho, hc⟩
    · exact hne h1
    · have h4 := h.c4
      unfold World.cell? at h4
      simp only [ho] at h4
      cases o <;> simp at h4
      simp [Obj.isCells] at hc)
  have hc : ∀ o, W'.cell? ⟨pb, o, none⟩ = W.cell? ⟨pb, o, none⟩ := fun o => World.cell?_of_block (a := ⟨pb, o, none⟩) hblk
  have hf : ∀ o, W'.frozen? ⟨pb, o, none⟩ = W.frozen? ⟨pb, o, none⟩ := fun o => World.frozen?_of_block (a := ⟨pb, o, none⟩) hblk
  have h0 := h.rp
  exact ⟨⟨(hc 0).trans h0.c0, (hc 1).trans h0.c1, (hc 2).trans h0.c2, (hc 3).trans h0.c3, (hf 0).trans h0.f0, (hf 2).trans h0.f2, (hf 3).trans h0.f3, h0.lt, Nat.le_trans h0.le hg.size, own_steady h0.spans hg hr hb, own_steady h0.wires hg hr hb, own_steady h0.code hg hr hb, fun i u c hu hcc => own_steady (h0.rows i u c hu hcc) hg hr hb, h0.apart⟩, (hc 4).trans h.c4, (hf 1).trans h.f1, (hf 4).trans h.f4⟩
/-- What was read lies from a block on. -/
theorem rp_plnF {w : World} {base pb : Nat} {p : PD} {vc vs vw : Value} {us : List Value} (h : RP w base pb p vc vs vw us) {B : Nat} (hB : B ≤ base) : PlnF B w vc vs vw p := by
  intro w' hsz hcc
  have hul := h.ulen
  refine ⟨?_, ?_, ?_⟩
  · rcases h.code.2 with ⟨h1, h0⟩ | ⟨g, cap, cur, h1, hbg, _, hcap, _⟩
    · exact Or.inl ⟨List.eq_nil_of_length_eq_zero h0, _, _, h1⟩
    · have hcode := h.code
      rw [h1] at hcode
      refine Or.inr ⟨g, 0, cap, h1, hcap, Nat.lt_of_lt_of_le (hcode.lt g rfl).2 hsz, fun i c hc => ?_⟩
      have hi := (List.getElem?_eq_some_iff.1 hc).1
      have hu : us[i]? = some us[i] := List.getElem?_eq_getElem (by omega)
      refine ⟨us[i], ?_, ?_⟩
      · rw [Nat.zero_add, hcc g i (by omega), hcode.cellAt i (by omega)]
        exact hu
      · have hrow := h.rows i _ c hu hc
        rcases ops_own hrow with h2 | ⟨b, off, cap', h2, hlt, h3⟩
        · exact Or.inl h2
        · have hb : base ≤ b := (hrow.lt b (by rw [h2]; rfl)).1
          refine Or.inr ⟨b, off, cap', h2, Nat.lt_of_lt_of_le hlt hsz, fun j o ho => ?_⟩
          obtain ⟨e1, e2, e3⟩ := h3 j o ho
          exact ⟨(hcc b _ (by omega)).trans e1, (hcc b _ (by omega)).trans e2, (hcc b _ (by omega)).trans e3⟩
  · rcases sps_of_own h.spans with h2 | ⟨b, off, cap', h2, hcap, hlt, h3⟩
    · exact Or.inl h2
    · have hb : base ≤ b := (h.spans.lt b (by rw [h2]; rfl)).1
      refine Or.inr ⟨b, off, cap', h2, hcap, Nat.lt_of_lt_of_le hlt hsz, fun j o ho => ?_⟩
      obtain ⟨e1, e2, e3⟩ := h3 j o ho
      exact ⟨(hcc b _ (by omega)).trans e1, (hcc b _ (by omega)).trans e2, (hcc b _ (by omega)).trans e3⟩
  · rcases wrs_of_own h.wires with h2 | ⟨b, off, cap', h2, hcap, hlt, h3⟩
    · exact Or.inl h2
    · have hb : base ≤ b := (h.wires.lt b (by rw [h2]; rfl)).1
      refine Or.inr ⟨b, off, cap', h2, hcap, Nat.lt_of_lt_of_le hlt hsz, fun j o ho => ?_⟩
      obtain ⟨e1, e2, e3, e4⟩ := h3 j o ho
      exact ⟨(hcc b _ (by omega)).trans e1, (hcc b _ (by omega)).trans e2, (hcc b _ (by omega)).trans e3, (hcc b _ (by omega)).trans e4⟩
theorem plnF_none (B : Nat) (w : World) : PlnF B w (.slice none 0 0) (.slice none 0 0) (.slice none 0 0) PD.none := fun _ _ _ => ⟨Or.inl ⟨rfl, _, _, rfl⟩, Or.inl ⟨rfl, _, _, rfl⟩, Or.inl ⟨rfl, _, _, rfl⟩⟩
/-- What Parse answers. -/
def PrsP (w : World) (r : PD × Int) (e : Ending) (w' : World) : Prop := ∃ vc vs vw, e = .returned (.tuple #[plV vc r.1.ticks vs vw, wErr r.2]) ∧ PlnF w.heap.size w' vc vs vw r.1 ∧ Below w.heap.size w w'
theorem prsp_none {w w' : World} {r : PD × Int} {z : Int} (hr : r = (PD.none, z)) (hz : z ≠ 0) (hb : Below w.heap.size w w') : PrsP w r (.returned (.tuple #[.agg #[.slice none 0 0, .int .i64 0, .slice none 0 0, .slice none 0 0], .iface 52 (.int .i64 z)])) w' := by
  subst hr
  exact ⟨_, _, _, by rw [wErr_not hz]; rfl, plnF_none _ w', hb⟩
/-- The boxes that Parse lays at its head, and the iterator's. -/
theorem parse_boxes {w W0 : World} {s : ByteArray} (hW : (((w.alloc (.cells #[.slice none 0 0, .int .i64 0, .slice none 0 0, .slice none 0 0] 26)).alloc (.cells #[.nilIface] 30)).alloc (.cells #[.slice none 0 0, .int .i64 0, .slice none 0 0, .slice none 0 0, .int .i64 0] 77)).alloc (.cells #[.string s] 9) = W0) :
    Box4 W0 w.heap.size (.slice none 0 0) (.int .i64 0) (.slice none 0 0) (.slice none 0 0) ∧ Boxed W0 (w.heap.size + 1) 30 .nilIface ∧ Dr W0 (w.heap.size + 4) (w.heap.size + 1 + 1) PD.none 0 (.slice none 0 0) (.slice none 0 0) (.slice none 0 0) [] ∧ Boxed W0 (w.heap.size + 1 + 1 + 1) 9 (.string s) ∧ Below w.heap.size w W0 ∧ W0.heap.size = w.heap.size + 4 := by
  have hs : W0.heap.size = w.heap.size + 4 := by rw [← hW]; simp
  have h0 : W0.heap[w.heap.size]? = some (.cells #[.slice none 0 0, .int .i64 0, .slice none 0 0, .slice none 0 0] 26 (0, 0)) := by
    rw [← hW, Below.heap_alloc _ _ _ (by simp; omega), Below.heap_alloc _ _ _ (by simp; omega), Below.heap_alloc _ _ _ (by simp)]
    exact World.alloc_heap_new _ _
  have h1 : W0.heap[w.heap.size + 1]? = some (.cells #[.nilIface] 30 (0, 0)) := by
    rw [← hW, Below.heap_alloc _ _ _ (by simp), Below.heap_alloc _ _ _ (by simp)]
    have := World.alloc_heap_new (w.alloc (.cells #[.slice none 0 0, .int .i64 0, .slice none 0 0, .slice none 0 0] 26)) (.cells #[.nilIface] 30)
    rwa [World.size_alloc] at this
  have h2 : W0.heap[w.heap.size + 1 + 1]? = some (.cells #[.slice none 0 0, .int .i64 0, .slice none 0 0, .slice none 0 0, .int .i64 0] 77 (0, 0)) := by
    rw [← hW, Below.heap_alloc _ _ _ (by simp)]
    have := World.alloc_heap_new ((w.alloc (.cells #[.slice none 0 0, .int .i64 0, .slice none 0 0, .slice none 0 0] 26)).alloc (.cells #[.nilIface] 30)) (.cells #[.slice none 0 0, .int .i64 0, .slice none 0 0, .slice none 0 0, .int .i64 0] 77)
    rwa [World.size_alloc, World.size_alloc] at this
  have h3 : W0.heap[w.heap.size + 1 + 1 + 1]? = some (.cells #[.string s] 9 (0, 0)) := by
    rw [← hW]
    have := World.alloc_heap_new (((w.alloc (.cells #[.slice none 0 0, .int .i64 0, .slice none 0 0, .slice none 0 0] 26)).alloc (.cells #[.nilIface] 30)).alloc (.cells #[.slice none 0 0, .int .i64 0, .slice none 0 0, .slice none 0 0, .int .i64 0] 77)) (.cells #[.string s] 9)
    rwa [World.size_alloc, World.size_alloc, World.size_alloc] at this
  refine ⟨h0, h1, ?_, h3, ?_, hs⟩
  · have hc : ∀ o v, #[Value.slice none 0 0, .int .i64 0, .slice none 0 0, .slice none 0 0, .int .i64 0][o]? = some v → W0.cell? ⟨w.heap.size + 1 + 1, o, none⟩ = some v := fun o v hv => by
      unfold World.cell?
      simp only [h2]
      exact hv
    have hf : ∀ o, W0.frozen? ⟨w.heap.size + 1 + 1, o, none⟩ = false := fun o => by
      unfold World.frozen?
      simp only [h2]
      simp
    exact ⟨⟨hc 0 _ rfl, hc 1 _ rfl, hc 2 _ rfl, hc 3 _ rfl, hf 0, hf 2, hf 3, by omega, by omega, World.ownsRow_nil _ _ _ _, World.ownsRow_nil _ _ _ _, World.ownsRow_nil _ _ _ _, fun i u c hu => by simp at hu, fun i j u v _ hu => by simp at hu⟩, hc 4 _ rfl, hf 1, hf 4⟩
  · rw [← hW]
    exact ((((Below.refl _ w).alloc (Nat.le_refl _) _).alloc (by simp) _).alloc (by simp; omega) _).alloc (by simp; omega) _

/-- The results laid. -/
theorem res_set {W W4 : World} {r : Nat} {x0 x1 x2 x3 y0 y1 y2 y3 u v : Value} (hW : ((((W.setCell ⟨r, 0, none⟩ y0).setCell ⟨r, 1, none⟩ y1).setCell ⟨r, 2, none⟩ y2).setCell ⟨r, 3, none⟩ y3).setCell ⟨r + 1, 0, none⟩ v = W4) (h1 : Box4 W r x0 x1 x2 x3) (h2 : Boxed W (r + 1) 30 u) :
    Box4 W4 r y0 y1 y2 y3 ∧ Boxed W4 (r + 1) 30 v ∧ KeepsOthers W W4 ∧ Below r W W4 := by
  rw [← hW]
  refine ⟨(Below.heap_setCell _ _ _ _ (show r ≠ r + 1 by omega)).trans (h1.set y0 y1 y2 y3), ?_, ?_, ?_⟩
  · have h3 : Boxed ((((W.setCell ⟨r, 0, none⟩ y0).setCell ⟨r, 1, none⟩ y1).setCell ⟨r, 2, none⟩ y2).setCell ⟨r, 3, none⟩ y3) (r + 1) 30 u := by
      unfold Boxed
      rw [Below.heap_setCell _ _ _ _ (show r + 1 ≠ r by omega), Below.heap_setCell _ _ _ _ (show r + 1 ≠ r by omega), Below.heap_setCell _ _ _ _ (show r + 1 ≠ r by omega), Below.heap_setCell _ _ _ _ (show r + 1 ≠ r by omega)]
      exact h2
    exact h3.set v
  · exact (KeepsOthers.setCell _ _ _).trans ((KeepsOthers.setCell _ _ _).trans ((KeepsOthers.setCell _ _ _).trans ((KeepsOthers.setCell _ _ _).trans (KeepsOthers.setCell _ _ _))))
  · exact (((((Below.refl r W).setCell (p := ⟨r, 0, none⟩) (Nat.le_refl _) _).setCell (p := ⟨r, 1, none⟩) (Nat.le_refl _) _).setCell (p := ⟨r, 2, none⟩) (Nat.le_refl _) _).setCell (p := ⟨r, 3, none⟩) (Nat.le_refl _) _).setCell (p := ⟨r + 1, 0, none⟩) (show r ≤ r + 1 by omega) _

set_option maxRecDepth 1000000 in
set_option maxHeartbeats 8000000 in
theorem plparse_any {G : World → Prop} (gall : ∀ w w', G w → Below w.heap.size w w' → G w') (gt : ∀ w, G w → Tabs2 w ∧ Parts w)
    (gchk : ∀ (p : PD) (vc vs vw : Value) (W : World), G W → Pln W vc vs vw p → Calls Tryz.prog 7 #[plV vc p.ticks vs vw] W fun e w' => e = .returned (wErr (plchk p)) ∧ Below W.heap.size W w')
    (s : ByteArray) (w : World) (hG : G w) (hl : s.size ≤ 1099511627776) :
    Calls Tryz.prog 11 #[.string s] w (PrsP w (planP s.data.toList)) := by
  have hsl : s.data.toList.length = s.size := by simp
  have HG : Hid (∀ W, Below w.heap.size w W → G W) := fun W hb => gall w W hG hb
  have HT : Hid (∀ W, Below w.heap.size w W → Tabs2 W ∧ Parts W) := fun W hb => gt W (gall w W hG hb)
  have HC : Hid (∀ (p : PD) (vc vs vw : Value) (W : World), Below w.heap.size w W → Pln W vc vs vw p → Calls Tryz.prog 7 #[plV vc p.ticks vs vw] W fun e w' => e = .returned (wErr (plchk p)) ∧ Below W.heap.size W w') := fun p vc vs vw W hb hp => gchk p vc vs vw W (gall w W hG hb) hp
  clear gall gt gchk hG
  refine (callsIn_wide (n := 4)).1 ?_
  refine callsIn_of_wp_marks Tryz.func11 rfl trivial ?_ rfl
  simp only [Tryz.ntmps11, List.size_toArray, List.length_cons, List.length_nil, Nat.reduceAdd, Nat.reduceSub, Array.replicate_succ, Array.replicate_zero, List.push_toArray, List.append_toArray, List.nil_append, List.cons_append]
  gi_wp2_with (refine ⟨trivial, ?_⟩; gi_at_call 31; refine (callsIn_wide.2 (lines_any s _)).mono ?_; rintro e w3 ⟨rfl, hw3⟩; subst hw3)
  obtain ⟨W0, hW0⟩ : ∃ W0, (((w.alloc (.cells #[.slice none 0 0, .int .i64 0, .slice none 0 0, .slice none 0 0] 26)).alloc (.cells #[.nilIface] 30)).alloc (.cells #[.slice none 0 0, .int .i64 0, .slice none 0 0, .slice none 0 0, .int .i64 0] 77)).alloc (.cells #[.string s] 9) = W0 := ⟨_, rfl⟩
  obtain ⟨z1, z2, z3, z4, bw0, hWs⟩ := parse_boxes hW0
  rw [hW0]
  clear hW0
  have z4' : Boxed W0 (w.heap.size + 1 + 1 + 1) 9 (encS s.data.toList) := z4
  refine wpIn_rangeState (P := Tryz.prog) 5 (Bi := w.heap.size + 1 + 1 + 1) (m := 1) rfl (by omega) (gf := 53) (lb := #[.pointer (some ⟨w.heap.size + 1 + 1 + 1, 0, none⟩)]) rfl trivial (enters_of Tryz.func53 (by kernel_rfl) rfl)
    (lines_gives s.data.toList (w.heap.size + 1 + 1 + 1) W0 z4' (by omega)) (by omega) (by omega)
    (fun pre W => (∃ k d vc vs vw us, runA layT 0 PD.none (pre.map (·.1)) = some (k, d) ∧ Kept k d ∧ Dr W (w.heap.size + 4) (w.heap.size + 1 + 1) d k vc vs vw us) ∧ (Box4 W w.heap.size (.slice none 0 0) (.int .i64 0) (.slice none 0 0) (.slice none 0 0) ∧ Boxed W (w.heap.size + 1) 30 .nilIface) ∧ (Below w.heap.size w W ∧ w.heap.size ≤ W.heap.size))
    (fun pre W => (∃ q p k d, pre.map (·.1) = q ++ [p] ∧ runA layT 0 PD.none q = some (k, d) ∧ actB k p = none) ∧ (Box4 W w.heap.size (.slice none 0 0) (.int .i64 0) (.slice none 0 0) (.slice none 0 0) ∧ Boxed W (w.heap.size + 1) 30 (.iface 52 (.int .i64 2))) ∧ (Below w.heap.size w W ∧ w.heap.size ≤ W.heap.size))
    ?hI ?hIx ?h0 ?assign ?body ?done ?stop
  case hI =>
    refine Steady.and (fun s W W' row hs hg hr => ?_) (Steady.and (Steady.and (steady_box4 _ _ _ _ _ (by omega)) (steady_boxed _ _ (fun _ => _) (by omega))) (steady_below (by omega) (by omega)))
    obtain ⟨k, d, vc, vs, vw, us, h1, h2, h3⟩ := hs
    exact ⟨k, d, vc, vs, vw, us, h1, h2, dr_steady h3 hg hr (by omega) (by omega)⟩
  case hIx =>
    exact Steady.and (steady_pure _ _ _) (Steady.and (Steady.and (steady_box4 _ _ _ _ _ (by omega)) (steady_boxed _ _ (fun _ => _) (by omega))) (steady_below (by omega) (by omega)))
  case h0 => exact ⟨⟨0, PD.none, _, _, _, _, rfl, kept_none, z3⟩, ⟨z1, z2⟩, ⟨bw0, by omega⟩⟩
  case assign =>
    intro l x W K hK
    simp only [List.setIfInBounds_toArray, List.set_cons_zero, List.set_cons_succ] at hK
    gi_wp2
    exact hK
  case body =>
    rintro l pre x W ⟨⟨k, d, vc, vs, vw, us, hrun, hkept, hD⟩, ⟨q1, q2⟩, ⟨hb, hb'⟩⟩ hlen
    simp only [List.setIfInBounds_toArray, List.set_cons_zero, List.set_cons_succ]
    have htk : Calls Tryz.prog 32 #[.pointer (some ⟨w.heap.size + 1 + 1, 0, none⟩), encS x.1] W (Took (w.heap.size + 4) (w.heap.size + 1 + 1) d k (actB k x.1) W) := take_any _ _ d k vc vs vw us ⟨x.1.toArray⟩ W hD hkept (HT.out W hb).1 (HT.out W hb).2 (by rw [ba_size']; exact x.2)
    cases ha : actB k x.1 with
    | none =>
      rw [ha] at htk
      have HX : Hid (actB k x.1 = none) := ha
      have HR : Hid (runA layT 0 PD.none (pre.map (·.1)) = some (k, d)) := hrun
      unfold Took at htk
      simp only at htk
      clear ha hrun
      gi_wp2_with (refine ⟨trivial, ?_⟩; gi_at_call 32; refine (CallsIn.inRound l (callsIn_wide.2 htk)).mono ?_; rintro e W2 ⟨rfl, hst, htk2⟩; have e1 : Box4 W2 w.heap.size (.slice none 0 0) (.int .i64 0) (.slice none 0 0) (.slice none 0 0) := (htk2.blk _ (by omega) (by omega)).trans q1; have e2 : Boxed W2 (w.heap.size + 1) 30 .nilIface := (htk2.blk _ (by omega) (by omega)).trans q2; obtain ⟨c0, c1, c2, c3⟩ := e1.cs; obtain ⟨f0, f1, f2, f3⟩ := e1.fs; have g0 := Boxed.cell e2; have g1 := Boxed.frozen e2; clear htk)
      obtain ⟨W4, hW4⟩ : ∃ W4, ((((W2.setCell ⟨w.heap.size, 0, none⟩ (.slice none 0 0)).setCell ⟨w.heap.size, 1, none⟩ (.int .i64 0)).setCell ⟨w.heap.size, 2, none⟩ (.slice none 0 0)).setCell ⟨w.heap.size, 3, none⟩ (.slice none 0 0)).setCell ⟨w.heap.size + 1, 0, none⟩ (.iface 52 (.int .i64 2)) = W4 := ⟨_, rfl⟩
      obtain ⟨p1, p2, p3, p4⟩ := res_set hW4 e1 e2
      rw [hW4]
      exact ⟨(htk2.others.trans p3).from _, ⟨pre.map (·.1), x.1, k, d, by simp, HR.out, HX.out⟩, ⟨p1, p2⟩, (hb.trans (htk2.low.mono (by omega))).trans p4, by have := htk2.others.size; have := p3.size; omega⟩
    | some a =>
      rw [ha] at htk
      have HX : Hid (runA layT 0 PD.none ((pre ++ [x]).map (·.1)) = some (a.kind, layT d a)) := by
        show _ = _
        rw [List.map_append, List.map_cons, List.map_nil, runA_snoc, hrun]
        simp only [ha]
      have HK : Hid (Kept a.kind (layT d a)) := kept_lay hkept ha
      unfold Took at htk
      simp only at htk
      clear ha hrun
      gi_wp2_with (refine ⟨trivial, ?_⟩; gi_at_call 32; refine (CallsIn.inRound l (callsIn_wide.2 htk)).mono ?_; rintro e W2 ⟨rfl, hst, htk2⟩; clear htk)
      obtain ⟨vc', vs', vw', us', hD2⟩ := hst
      exact ⟨htk2.others.from _, fun j hj0 hj1 => htk2.blk j (by omega) (by omega), ⟨_, _, _, _, _, _, HX.out, HK.out, hD2⟩, ⟨(htk2.blk _ (by omega) (by omega)).trans q1, (htk2.blk _ (by omega) (by omega)).trans q2⟩, hb.trans (htk2.low.mono (by omega)), by have := htk2.others.size; omega⟩
  case done =>
    rintro D xs W hD hxs ⟨⟨k, d, vc, vs, vw, us, hrun, hkept, hDr⟩, ⟨q1, q2⟩, hb, hb'⟩ hK
    rw [hxs] at hrun
    have hPL := (plan_byline s.data.toList).2 k d hrun
    have hc4 := hDr.c4
    by_cases hk0 : k = 0
    · subst hk0
      have HN : Hid (planP s.data.toList = (PD.none, 2)) := hPL.1 rfl
      obtain ⟨c0, c1, c2, c3⟩ := q1.cs
      obtain ⟨f0, f1, f2, f3⟩ := q1.fs
      have g0 := q2.cell
      have g1 := q2.frozen
      clear hPL hrun hkept
      gi_wp2
      obtain ⟨W4, hW4⟩ : ∃ W4, ((((W.setCell ⟨w.heap.size, 0, none⟩ (.slice none 0 0)).setCell ⟨w.heap.size, 1, none⟩ (.int .i64 0)).setCell ⟨w.heap.size, 2, none⟩ (.slice none 0 0)).setCell ⟨w.heap.size, 3, none⟩ (.slice none 0 0)).setCell ⟨w.heap.size + 1, 0, none⟩ (.iface 52 (.int .i64 2)) = W4 := ⟨_, rfl⟩
      obtain ⟨p1, p2, p3, p4⟩ := res_set hW4 q1 q2
      rw [hW4]
      have pK : W4.heap[D]? = some (.deferred (some [])) := p3.same D _ hK rfl
      have pb4 : Below w.heap.size w W4 := hb.trans p4
      have u1 := Box4.kept p1 (grownBy_putObj' W4 D (.deferred none)) (fun e => by cases e; omega)
      have u2 := Boxed.kept p2 (grownBy_putObj' W4 D (.deferred none)) (fun e => by cases e; omega)
      obtain ⟨d0, d1, d2, d3⟩ := u1.cs
      have d4 := u2.cell
      refine ⟨by simp, .inl ⟨_, _, rfl, run_takeDeferred pK, ?_⟩⟩
      refine ⟨.tuple #[.agg #[.slice none 0 0, .int .i64 0, .slice none 0 0, .slice none 0 0], .iface 52 (.int .i64 2)], ?_, prsp_none HN.out (by decide) ?_⟩
      · simp [results, Tryz.results11, go_sem, d0, d1, d2, d3, d4]
      · exact pb4.trans (belowK_b (w := w) (Nat.le_refl _) W4 D _ _ (by omega) pK rfl rfl)
    · have hki : ((k : Int) == 0) = false := by simpa using hk0
      have HPR : Hid (planP s.data.toList = planR (some d)) := hPL.2 hk0
      have hck := HC.out d vc vs vw W hb hDr.rp.pln
      have k0 := hDr.rp.c0
      have k1 := hDr.rp.c1
      have k2 := hDr.rp.c2
      have k3 := hDr.rp.c3
      obtain ⟨ca, cc, rfl⟩ := own_sl hDr.rp.code
      obtain ⟨sa, sc, rfl⟩ := own_sl hDr.rp.spans
      obtain ⟨wa, wc, rfl⟩ := own_sl hDr.rp.wires
      unfold plV at hck
      clear hPL hrun hkept hk0
      by_cases hz : plchk d = 0
      · have HN : Hid (planP s.data.toList = (d, 0)) := by show _ = _; rw [HPR.out, planR_ok hz]
        rw [hz, show wErr 0 = .nilIface from rfl] at hck
        clear hz HPR
        gi_wp2_with (refine ⟨trivial, ?_⟩; gi_at_call 7; refine (callsIn_wide.2 hck).mono ?_; rintro e W2 ⟨rfl, b2⟩; have e1 : Box4 W2 w.heap.size (.slice none 0 0) (.int .i64 0) (.slice none 0 0) (.slice none 0 0) := (b2.block _ q1.lt).trans q1; have e2 : Boxed W2 (w.heap.size + 1) 30 .nilIface := (b2.block _ q2.lt).trans q2; have D2 := hDr.below b2; have h0 := D2.rp.c0; have h1 := D2.rp.c1; have h2 := D2.rp.c2; have h3 := D2.rp.c3; obtain ⟨c0, c1, c2, c3⟩ := e1.cs; obtain ⟨f0, f1, f2, f3⟩ := e1.fs; have g0 := Boxed.cell e2; have g1 := Boxed.frozen e2; have hK2 : W2.heap[D]? = some (.deferred (some [])) := (b2.block _ (Array.getElem?_eq_some_iff.1 hK).1).trans hK; clear hck k0 k1 k2 k3)
        obtain ⟨W4, hW4⟩ : ∃ W4, ((((W2.setCell ⟨w.heap.size, 0, none⟩ (.slice ca d.code.length cc)).setCell ⟨w.heap.size, 1, none⟩ (.int .i64 d.ticks)).setCell ⟨w.heap.size, 2, none⟩ (.slice sa d.spans.length sc)).setCell ⟨w.heap.size, 3, none⟩ (.slice wa d.wires.length wc)).setCell ⟨w.heap.size + 1, 0, none⟩ .nilIface = W4 := ⟨_, rfl⟩
        obtain ⟨p1, p2, p3, p4⟩ := res_set hW4 e1 e2
        rw [hW4]
        have pK : W4.heap[D]? = some (.deferred (some [])) := p3.same D _ hK2 rfl
        have pb4 : Below w.heap.size w W4 := (hb.trans (b2.mono hb')).trans p4
        have u1 := Box4.kept p1 (grownBy_putObj' W4 D (.deferred none)) (fun e => by cases e; omega)
        have u2 := Boxed.kept p2 (grownBy_putObj' W4 D (.deferred none)) (fun e => by cases e; omega)
        obtain ⟨d0, d1, d2, d3⟩ := u1.cs
        have d4 := u2.cell
        refine ⟨by simp, .inl ⟨_, _, rfl, run_takeDeferred pK, ?_⟩⟩
        refine ⟨.tuple #[.agg #[.slice ca d.code.length cc, .int .i64 d.ticks, .slice sa d.spans.length sc, .slice wa d.wires.length wc], .nilIface], ?_, ?_⟩
        · simp [results, Tryz.results11, go_sem, d0, d1, d2, d3, d4]
        · rw [HN.out]
          refine ⟨_, _, _, rfl, ?_, pb4.trans (belowK_b (w := w) (Nat.le_refl _) W4 D _ _ (by omega) pK rfl rfl)⟩
          have hF := rp_plnF D2.rp (B := w.heap.size + 2) (by omega)
          intro w' hsz hcc
          refine hF w' ?_ (fun b o hbo => (hcc b o (by omega)).trans ?_)
          · have h1 := p3.size
            have h2 : (W4.putObj D (.deferred none)).heap.size = W4.heap.size := by simp [World.putObj]
            omega
          · by_cases hbD : b = D
            · subst hbD
              have l1 : (W4.putObj b (.deferred none)).heap[b]? = some (.deferred none) := World.putObj_heap_same (Array.getElem?_eq_some_iff.1 pK).1
              unfold World.cell?
              simp only [l1, hK2]
            · refine (World.cell?_of_block (a := ⟨b, o, none⟩) (World.putObj_heap_other hbD)).trans ?_
              have hb4 : W4.heap[b]? = W2.heap[b]? := by
                rw [← hW4, Below.heap_setCell _ _ _ _ (show b ≠ w.heap.size + 1 by omega), Below.heap_setCell _ _ _ _ (show b ≠ w.heap.size by omega), Below.heap_setCell _ _ _ _ (show b ≠ w.heap.size by omega), Below.heap_setCell _ _ _ _ (show b ≠ w.heap.size by omega), Below.heap_setCell _ _ _ _ (show b ≠ w.heap.size by omega)]
              exact World.cell?_of_block (a := ⟨b, o, none⟩) hb4
      · have HN : Hid (planP s.data.toList = (PD.none, plchk d)) := by show _ = _; rw [HPR.out, planR_bad hz]
        have HZ : Hid (plchk d ≠ 0) := hz
        rw [wErr_not hz] at hck
        obtain ⟨z, hzz⟩ : ∃ z, z = plchk d := ⟨_, rfl⟩
        rw [← hzz] at hck HN HZ
        clear hz hzz HPR
        gi_wp2_with (refine ⟨trivial, ?_⟩; gi_at_call 7; refine (callsIn_wide.2 hck).mono ?_; rintro e W2 ⟨rfl, b2⟩; have e1 : Box4 W2 w.heap.size (.slice none 0 0) (.int .i64 0) (.slice none 0 0) (.slice none 0 0) := (b2.block _ q1.lt).trans q1; have e2 : Boxed W2 (w.heap.size + 1) 30 .nilIface := (b2.block _ q2.lt).trans q2; have D2 := hDr.below b2; have h0 := D2.rp.c0; have h1 := D2.rp.c1; have h2 := D2.rp.c2; have h3 := D2.rp.c3; obtain ⟨c0, c1, c2, c3⟩ := e1.cs; obtain ⟨f0, f1, f2, f3⟩ := e1.fs; have g0 := Boxed.cell e2; have g1 := Boxed.frozen e2; have hK2 : W2.heap[D]? = some (.deferred (some [])) := (b2.block _ (Array.getElem?_eq_some_iff.1 hK).1).trans hK; clear hck k0 k1 k2 k3)
        obtain ⟨W4, hW4⟩ : ∃ W4, ((((W2.setCell ⟨w.heap.size, 0, none⟩ (.slice none 0 0)).setCell ⟨w.heap.size, 1, none⟩ (.int .i64 0)).setCell ⟨w.heap.size, 2, none⟩ (.slice none 0 0)).setCell ⟨w.heap.size, 3, none⟩ (.slice none 0 0)).setCell ⟨w.heap.size + 1, 0, none⟩ (.iface 52 (.int .i64 z)) = W4 := ⟨_, rfl⟩
        obtain ⟨p1, p2, p3, p4⟩ := res_set hW4 e1 e2
        rw [hW4]
        have pK : W4.heap[D]? = some (.deferred (some [])) := p3.same D _ hK2 rfl
        have pb4 : Below w.heap.size w W4 := (hb.trans (b2.mono hb')).trans p4
        have u1 := Box4.kept p1 (grownBy_putObj' W4 D (.deferred none)) (fun e => by cases e; omega)
        have u2 := Boxed.kept p2 (grownBy_putObj' W4 D (.deferred none)) (fun e => by cases e; omega)
        obtain ⟨d0, d1, d2, d3⟩ := u1.cs
        have d4 := u2.cell
        refine ⟨by simp, .inl ⟨_, _, rfl, run_takeDeferred pK, ?_⟩⟩
        refine ⟨.tuple #[.agg #[.slice none 0 0, .int .i64 0, .slice none 0 0, .slice none 0 0], .iface 52 (.int .i64 z)], ?_, prsp_none HN.out HZ.out ?_⟩
        · simp [results, Tryz.results11, go_sem, d0, d1, d2, d3, d4]
        · exact pb4.trans (belowK_b (w := w) (Nat.le_refl _) W4 D _ _ (by omega) pK rfl rfl)
  case stop =>
    rintro D pre W hD hpre ⟨⟨q, p, k, d, hpq, hrun, hp⟩, ⟨q1, q2⟩, hb, hb'⟩ hK
    have HN : Hid (planP s.data.toList = (PD.none, 2)) := by
      obtain ⟨r, hr⟩ := hpre
      show _ = _
      apply (plan_byline _).1
      rw [← hr, hpq, List.append_assoc]
      exact runA_bad layT hrun hp
    clear hp hpre hpq hrun
    gi_wp2
    have u1 := Box4.kept q1 (grownBy_putObj' W D (.deferred none)) (fun e => by cases e; omega)
    have u2 := Boxed.kept q2 (grownBy_putObj' W D (.deferred none)) (fun e => by cases e; omega)
    obtain ⟨d0, d1, d2, d3⟩ := u1.cs
    have d4 := u2.cell
    refine ⟨by simp, .inl ⟨_, _, rfl, run_takeDeferred hK, ?_⟩⟩
    refine ⟨.tuple #[.agg #[.slice none 0 0, .int .i64 0, .slice none 0 0, .slice none 0 0], .iface 52 (.int .i64 2)], ?_, prsp_none HN.out (by decide) ?_⟩
    · simp [results, Tryz.results11, go_sem, d0, d1, d2, d3, d4]
    · exact hb.trans (belowK_b (w := w) (Nat.le_refl _) W D _ _ (by omega) hK rfl rfl)
end Go.Proofs.YtamnfadngbbaeacGreatDoor
