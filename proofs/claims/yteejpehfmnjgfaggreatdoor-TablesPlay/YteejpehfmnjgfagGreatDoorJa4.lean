/-
  SplOpen, St8, StFz, TabM, TabC, TKTwo: joined into one text.
-/
import Derived.Test.YteejpehfmnjgfagGreatDoorJa3
import Derived.Test.YteejpehfmnjgfagGreatDoorJa1
namespace Go.Proofs.YteejpehfmnjgfagGreatDoor
open Go.ChangeShapes Go.WideShapes Go.ChangeAt Go.WideElems Go.RowKit Go.Deep

theorem pcSps : Tryz.prog.cellsOf 23 = 1 := by kernel_rfl
section
variable {H : Type} {enc : TypeId × Value → H} {W : World} {base : Nat} {sp : Nat → Bool} {held : Bool}
set_option maxRecDepth 100000 in
theorem pk_spl (n : Nat) (cs : List Value) (x : DataW H × List MemPlace) (h : DataW.trod enc Tryz.prog W base sp held n 27 cs = some x) : ∃ l : List (List S3), ∃ u, cs = [u] ∧ Spl W u l := by
  obtain ⟨a, len, cap, rfl, hr⟩ := pk_slice (α := List S3) Tryz.underlying27 pcSps (by decide) (fun cs l => ∃ u, cs = [u] ∧ Sps W u l) pk_sps h
  rcases hr with rfl | ⟨b, off, rfl, hcap, hlt, l, rfl, hl⟩
  · exact ⟨[], _, rfl, Or.inl ⟨rfl, _, _, rfl⟩⟩
  · refine ⟨l, _, rfl, Or.inr ⟨b, off, cap, rfl, hcap, hlt, fun i c hc => ?_⟩⟩
    obtain ⟨us, _, ⟨u, rfl, hu⟩, hc⟩ := hl i c hc
    have := hc 0 (by omega)
    exact ⟨u, by simpa using this, hu⟩
set_option maxRecDepth 100000 in
/-- Lists of spans that came in. -/
theorem open_spl {b0 : Nat} {r : Reach} {v : Value} {d : DataW H} {p : List MemPlace} (hv : Value.okWide Tryz.prog W r b0 27 v)
    (h : DataW.Trod enc Tryz.prog W base sp held 27 v d p) : ∃ ll : List (List S3), Spl W v ll := by
  obtain ⟨a0, len0, cap0, rfl⟩ := okWide_slice Tryz.underlying27 hv
  obtain ⟨fuel, hf⟩ := h
  obtain ⟨l, u, hu, hs⟩ := pk_spl _ _ _ hf
  simp [Value.cells] at hu
  subst hu
  exact ⟨l, hs⟩
theorem pk_in (n : Nat) (cs : List Value) (x : DataW H × List MemPlace) (h : DataW.trod enc Tryz.prog W base sp held n 3 cs = some x) : ∃ o : Int, cs = [.int .i64 o] ∧ o ≤ 9223372036854775807 := by
  obtain ⟨n, e0, _, hw⟩ := DataW.trod_int Tryz.underlying3 h
  refine ⟨n, e0, ?_⟩
  have hw' : (decide (IntKind.i64.min ≤ n) && decide (n ≤ IntKind.i64.max)) = true := hw
  rw [Bool.and_eq_true, decide_eq_true_eq, decide_eq_true_eq] at hw'
  have e : IntKind.i64.max = 9223372036854775807 := by decide
  omega
set_option maxRecDepth 100000 in
/-- Numbers that came in, each an int. -/
theorem open_stp_in {b0 : Nat} {r : Reach} {v : Value} {d : DataW H} {p : List MemPlace} (hv : Value.okWide Tryz.prog W r b0 28 v)
    (h : DataW.Trod enc Tryz.prog W base sp held 28 v d p) : ∃ l : List Int, Stp W v l ∧ ∀ x ∈ l, x ≤ 9223372036854775807 := by
  obtain ⟨a0, len0, cap0, rfl⟩ := okWide_slice Tryz.underlying28 hv
  obtain ⟨fuel, hf⟩ := h
  obtain ⟨a, len, cap, hu, hr⟩ := pk_slice (α := Int) Tryz.underlying28 pcInt (by decide) (fun cs o => cs = [.int .i64 o] ∧ o ≤ 9223372036854775807) pk_in hf
  simp [Value.cells] at hu
  obtain ⟨rfl, rfl, rfl⟩ := hu
  rcases hr with rfl | ⟨b, off, rfl, _, hlt, l, rfl, hl⟩
  · exact ⟨[], Or.inl ⟨rfl, _, _, rfl⟩, fun x hx => (by cases hx)⟩
  · refine ⟨l, Or.inr ⟨b, off, _, rfl, hlt, fun i o ho => ?_⟩, fun x hx => ?_⟩
    · obtain ⟨us, _, ⟨rfl, _⟩, hc⟩ := hl i o ho
      have := hc 0 (by omega)
      simpa using this
    · obtain ⟨i, hi⟩ := List.mem_iff_getElem?.1 hx
      obtain ⟨us, _, ⟨_, h2⟩, _⟩ := hl i x hi
      exact h2
end
end Go.Proofs.YteejpehfmnjgfagGreatDoor
namespace Go.Proofs.YteejpehfmnjgfagGreatDoor
open Go.RowKit

theorem below_st8 {B : Nat} {w w' : World} (h : Below B w w') (b : Nat) (hb : B ≤ b) (x0 x1 x2 x3 x4 x5 x6 x7 : Value) : Below B w ((((((((w'.setCell ⟨b, 0, none⟩ x0).setCell ⟨b, 1, none⟩ x1).setCell ⟨b, 2, none⟩ x2).setCell ⟨b, 3, none⟩ x3).setCell ⟨b, 4, none⟩ x4).setCell ⟨b, 5, none⟩ x5).setCell ⟨b, 6, none⟩ x6).setCell ⟨b, 7, none⟩ x7) :=
  (((((((h.setCell (p := ⟨b, 0, none⟩) hb x0).setCell (p := ⟨b, 1, none⟩) hb x1).setCell (p := ⟨b, 2, none⟩) hb x2).setCell (p := ⟨b, 3, none⟩) hb x3).setCell (p := ⟨b, 4, none⟩) hb x4).setCell (p := ⟨b, 5, none⟩) hb x5).setCell (p := ⟨b, 6, none⟩) hb x6).setCell (p := ⟨b, 7, none⟩) hb x7
/-- A state is written into a new block. -/
theorem zst_set {w : World} {b : Nat} (h : w.heap[b]? = some (.cells #[.int .i64 0, .int .i64 0, .int .i64 0, .int .i64 0, .int .i64 0, .int .i64 0, .int .i64 0, .bool false] 49)) (s : St) : ((((((((w.setCell ⟨b, 0, none⟩ (.int .i64 s.p)).setCell ⟨b, 1, none⟩ (.int .i64 (s.c 0))).setCell ⟨b, 2, none⟩ (.int .i64 (s.c 1))).setCell ⟨b, 3, none⟩ (.int .i64 (s.c 2))).setCell ⟨b, 4, none⟩ (.int .i64 (s.c 3))).setCell ⟨b, 5, none⟩ (.int .i64 (s.c 4))).setCell ⟨b, 6, none⟩ (.int .i64 (s.c 5))).setCell ⟨b, 7, none⟩ (.bool s.f)).heap[b]? = some (.cells #[.int .i64 s.p, .int .i64 (s.c 0), .int .i64 (s.c 1), .int .i64 (s.c 2), .int .i64 (s.c 3), .int .i64 (s.c 4), .int .i64 (s.c 5), .bool s.f] 49) := by
  simp [World.setCell, Array.getElem?_modify, h]
theorem touch_st (w : World) (b : Nat) (x0 x1 x2 x3 x4 x5 x6 x7 : Value) : KTouch [b] w ((((((((w.setCell ⟨b, 2, none⟩ x0).setCell ⟨b, 3, none⟩ x1).setCell ⟨b, 4, none⟩ x2).setCell ⟨b, 5, none⟩ x3).setCell ⟨b, 6, none⟩ x4).setCell ⟨b, 7, none⟩ x5).setCell ⟨b, 8, none⟩ x6).setCell ⟨b, 9, none⟩ x7) :=
  have hm : b ∈ [b] := by simp
  (((((((KTouch.set w hm 2 x0).trans (KTouch.set _ hm 3 x1)).trans (KTouch.set _ hm 4 x2)).trans (KTouch.set _ hm 5 x3)).trans (KTouch.set _ hm 6 x4)).trans (KTouch.set _ hm 7 x5)).trans (KTouch.set _ hm 8 x6)).trans (KTouch.set _ hm 9 x7)
end Go.Proofs.YteejpehfmnjgfagGreatDoor
namespace Go.Proofs.YteejpehfmnjgfagGreatDoor
open Go.RowKit

theorem stb_fz {w : World} {b : Nat} {s : St} (h : StB w b s) (o : Nat) : w.frozen? ⟨b, o, none⟩ = false := by
  have e : w.heap[b]? = _ := h
  simp [World.frozen?, e]
end Go.Proofs.YteejpehfmnjgfagGreatDoor
namespace Go.Proofs.YteejpehfmnjgfagGreatDoor

/-- A plan with other spans. -/
def withS (p : PD) (sp : List S3) : PD := ⟨p.code, p.ticks, sp, p.wires⟩
theorem withS_self (p : PD) : withS p p.spans = p := rfl
/-- A kernel, which list counts in this frame, and which one was asked last. -/
structure TbD where
  k : KD
  now : Nat
  next : Nat
/-- What is wrong with a plan and its lists. -/
def listsE (p : PD) : List (List S3) → Int
  | [] => 0
  | s :: l => if plchk (withS p s) = 0 then listsE p l else plchk (withS p s)
def tabE (p : PD) (ls : List (List S3)) : Int := if 4 < ls.length then 4 else if ls.length = 0 then 5 else listsE p ls
theorem listsE_zero {p : PD} : ∀ {ls : List (List S3)}, listsE p ls = 0 → ∀ s ∈ ls, plchk (withS p s) = 0
  | [], _, s, hs => by cases hs
  | a :: l, h, s, hs => by
    unfold listsE at h
    by_cases h1 : plchk (withS p a) = 0
    · rw [if_pos h1] at h
      rcases List.mem_cons.1 hs with rfl | h2
      · exact h1
      · exact listsE_zero h s h2
    · rw [if_neg h1] at h
      exact absurd h h1
theorem tabE_zero {p : PD} {ls : List (List S3)} (h : tabE p ls = 0) : ls.length ≤ 4 ∧ 0 < ls.length ∧ ∀ s ∈ ls, plchk (withS p s) = 0 := by
  unfold tabE at h
  split at h
  · omega
  · split at h
    · omega
    · exact ⟨by omega, by omega, listsE_zero h⟩
def newT (p : PD) : TbD := ⟨newK p, 0, 0⟩
/-- Which counts at the next tick. -/
def countT (p : PD) (d : TbD) : Nat := if d.k.time % p.ticks = 0 then d.next else d.now
/-- The spans that count at the next tick. -/
def spanT (p : PD) (ls : List (List S3)) (d : TbD) : List S3 := ls.getD (countT p d) []
def tickT (p : PD) (ls : List (List S3)) (d : TbD) : TbD := ⟨(tickK p (spanT p ls d) d.k).1, countT p d, d.next⟩
def evT (p : PD) (ls : List (List S3)) (d : TbD) : Int × Int × Int × Int := (tickK p (spanT p ls d) d.k).2
def askE (ls : List (List S3)) (i : Int) : Int := if i < 0 ∨ (ls.length : Int) ≤ i then 1 else 0
def askT (ls : List (List S3)) (d : TbD) (i : Int) : TbD := if askE ls i = 0 then ⟨d.k, d.now, i.toNat⟩ else d
structure TOk (p : PD) (ls : List (List S3)) (d : TbD) : Prop where
  k : KOk p d.k
  now : d.now < ls.length
  next : d.next < ls.length
theorem KOk.withS {p : PD} {k : KD} (h : KOk p k) (sp : List S3) : KOk (withS p sp) k := ⟨h.rl, h.ll, h.rooms, h.lines, h.lost, h.time⟩
theorem KOk.withS' {p : PD} {k : KD} {sp : List S3} (h : KOk (Go.Proofs.YteejpehfmnjgfagGreatDoor.withS p sp) k) : KOk p k := ⟨h.rl, h.ll, h.rooms, h.lines, h.lost, h.time⟩
theorem countT_lt {p : PD} {ls : List (List S3)} {d : TbD} (h : TOk p ls d) : countT p d < ls.length := by
  unfold countT
  split
  · exact h.next
  · exact h.now
theorem spanT_mem {p : PD} {ls : List (List S3)} {d : TbD} (h : TOk p ls d) : ls[countT p d]? = some (spanT p ls d) ∧ spanT p ls d ∈ ls := by
  have hlt := countT_lt h
  have e : ls[countT p d]? = some ls[countT p d] := List.getElem?_eq_getElem hlt
  have e2 : spanT p ls d = ls[countT p d] := by simp [spanT, List.getD, e]
  rw [e2]
  exact ⟨e, List.getElem_mem hlt⟩
theorem spanT_right {p : PD} {ls : List (List S3)} {d : TbD} (hz : tabE p ls = 0) (h : TOk p ls d) : plchk (withS p (spanT p ls d)) = 0 := (tabE_zero hz).2.2 _ (spanT_mem h).2
theorem newT_ok {p : PD} {ls : List (List S3)} (hz : tabE p ls = 0) : TOk p ls (newT p) := by
  obtain ⟨_, h2, h3⟩ := tabE_zero hz
  have hm : ls[0] ∈ ls := List.getElem_mem h2
  have h4 : KOk (withS p ls[0]) (newK (withS p ls[0])) := new_ok (h3 _ hm)
  exact ⟨KOk.withS' (p := p) (sp := ls[0]) (k := newK p) ⟨h4.rl, h4.ll, h4.rooms, h4.lines, h4.lost, h4.time⟩, h2, h2⟩
theorem tickT_ok {p : PD} {ls : List (List S3)} {d : TbD} (hz : tabE p ls = 0) (h : TOk p ls d) : TOk p ls (tickT p ls d) := by
  have h1 : KOk (withS p (spanT p ls d)) (tickK (withS p (spanT p ls d)) (withS p (spanT p ls d)).spans d.k).1 := tick_ok (spanT_right hz h) (h.k.withS _)
  have h2 : KOk p (tickK p (spanT p ls d) d.k).1 := ⟨h1.rl, h1.ll, h1.rooms, h1.lines, h1.lost, h1.time⟩
  exact ⟨h2, countT_lt h, h.next⟩
theorem askT_ok {p : PD} {ls : List (List S3)} {d : TbD} (h : TOk p ls d) (i : Int) : TOk p ls (askT ls d i) := by
  unfold askT
  split
  · rename_i h1
    unfold askE at h1
    split at h1
    · omega
    · exact ⟨h.k, h.now, by show i.toNat < ls.length; omega⟩
  · exact h
theorem tickT_time (p : PD) (ls : List (List S3)) (d : TbD) : (tickT p ls d).k.time = d.k.time + 1 := tick_time _ _ _
theorem askT_k (ls : List (List S3)) (d : TbD) (i : Int) : (askT ls d i).k = d.k ∧ (askT ls d i).now = d.now := by
  unfold askT
  split <;> exact ⟨rfl, rfl⟩
theorem newT_count (p : PD) : countT p (newT p) = 0 := by
  unfold countT newT
  simp
/-- Within a frame the list that counts stays. -/
theorem count_stays {p : PD} {ls : List (List S3)} {d : TbD} (h : (tickT p ls d).k.time % p.ticks ≠ 0) : countT p (tickT p ls d) = countT p d := by
  unfold countT at *
  rw [if_neg h]
  rfl
theorem count_asked {p : PD} {ls : List (List S3)} {d : TbD} (i : Int) (h : d.k.time % p.ticks ≠ 0) : countT p (askT ls d i) = d.now := by
  obtain ⟨h1, h2⟩ := askT_k ls d i
  unfold countT
  rw [h1, if_neg h, h2]
theorem count_within {p : PD} {d : TbD} (h : d.k.time % p.ticks ≠ 0) : countT p d = d.now := by
  unfold countT
  rw [if_neg h]
theorem evT_tick {p : PD} {ls : List (List S3)} {d : TbD} : (evT p ls d).1 = d.k.time := by
  unfold evT tickK
  simp only
  split <;> rfl
end Go.Proofs.YteejpehfmnjgfagGreatDoor
namespace Go.Proofs.YteejpehfmnjgfagGreatDoor
open Go.RowKit

/-- What package tables does, in every world of a kind: K w0 w p ls d cb F: made in the world w0, of the plan p and the lists ls, tables lie at block cb; they are d, and all that they have lies in the blocks F. -/
structure TabC (G : World → Prop) where
  K : World → World → PD → List (List S3) → TbD → Nat → List Nat → Prop
  all : ∀ w w', G w → Below w.heap.size w w' → G w'
  since : ∀ {w0 w p ls d cb F}, K w0 w p ls d cb F → Below w0.heap.size w0 w
  ge : ∀ {w0 w p ls d cb F}, K w0 w p ls d cb F → ∀ g ∈ F, w0.heap.size ≤ g ∧ g < w.heap.size
  lower : ∀ {w1 w0 w p ls d cb F}, Below w1.heap.size w1 w0 → K w0 w p ls d cb F → K w1 w p ls d cb F
  frame : ∀ {w0 w w' p ls d cb F M}, K w0 w p ls d cb F → KTouch M w w' → (∀ m ∈ M, m ∉ F ∧ w0.heap.size ≤ m) → K w0 w' p ls d cb F
  new : ∀ (p : PD) (vc vs vw lv : Value) (ls : List (List S3)) (W : World), G W → Pln W vc vs vw p → Spl W lv ls → tabE p ls = 0 → Calls Tryz.prog 5 #[plV vc p.ticks vs vw, lv] W fun e w' => ∃ cb F, e = .returned (.tuple #[.pointer (some ⟨cb, 0, none⟩), .nilIface]) ∧ K W w' p ls (newT p) cb F
  no : ∀ (p : PD) (vc vs vw lv : Value) (ls : List (List S3)) (W : World), G W → Pln W vc vs vw p → Spl W lv ls → tabE p ls ≠ 0 → Calls Tryz.prog 5 #[plV vc p.ticks vs vw, lv] W fun e w' => ∃ x, e = .returned (.tuple #[.pointer x, wErr (tabE p ls)]) ∧ Below W.heap.size W w'
  ask : ∀ {w0 W p ls d cb F} (i : Int), K w0 W p ls d cb F → tabE p ls = 0 → TOk p ls d → Calls Tryz.prog 8 #[.pointer (some ⟨cb, 0, none⟩), .int .i64 i] W fun e w' => e = .returned (wErr (askE ls i)) ∧ ∃ F', K w0 w' p ls (askT ls d i) cb F' ∧ KTouch F W w' ∧ ∀ g ∈ F', g ∈ F ∨ W.heap.size ≤ g
  tick : ∀ {w0 W p ls d cb F}, G w0 → K w0 W p ls d cb F → tabE p ls = 0 → TOk p ls d → d.k.time < 100000000 → Calls Tryz.prog 9 #[.pointer (some ⟨cb, 0, none⟩)] W fun e w' => e = .returned (evA (evT p ls d)) ∧ ∃ F', K w0 w' p ls (tickT p ls d) cb F' ∧ KTouch F W w' ∧ ∀ g ∈ F', g ∈ F ∨ W.heap.size ≤ g
  now : ∀ {w0 W p ls d cb F}, K w0 W p ls d cb F → tabE p ls = 0 → TOk p ls d → Calls Tryz.prog 12 #[.pointer (some ⟨cb, 0, none⟩)] W fun e w' => e = .returned (.int .i64 (countT p d : Nat)) ∧ Below W.heap.size W w'
/-- .. of State. -/
def TabState {G : World → Prop} (C : TabC G) : Prop := ∀ {w0 W p ls d cb F} (r : Int), C.K w0 W p ls d cb F → TOk p ls d → tabE p ls = 0 → Calls Tryz.prog 11 #[.pointer (some ⟨cb, 0, none⟩), .int .i64 r] W fun e w' => e = .returned (.tuple #[stA (roomK d.k r), wErr (errB (noRoom d.k r))]) ∧ Below W.heap.size W w'
end Go.Proofs.YteejpehfmnjgfagGreatDoor
namespace Go.Proofs.YteejpehfmnjgfagGreatDoor
open Go.RowKit

/-- A block of the caller's own stays, and stays the caller's own. -/
theorem keepF {W w' : World} {F F' : List Nat} (tk : KTouch F W w') (hF : ∀ g ∈ F', g ∈ F ∨ W.heap.size ≤ g) : ∀ b, b < W.heap.size → b ∉ F → w'.heap[b]? = W.heap[b]? ∧ b ∉ F' := fun b hb hn => ⟨tk.block b hb hn, fun hm => by
  rcases hF b hm with h1 | h1
  · exact hn h1
  · omega⟩
/-- Neither has what the other one has. -/
structure TK {G : World → Prop} (C : TabC G) (D : KerC G) (w0 wr : World) (p : PD) (ls : List (List S3)) (q : PD) (vc vs vw : Value) (d : TbD) (k : KD) (cb : Nat) (F : List Nat) (kb : Nat) (H : List Nat) : Prop where
  T : C.K w0 wr p ls d cb F
  K : D.K w0 wr q vc vs vw k kb H
  ap : ∀ g ∈ F, g ∉ H
  ok : TOk p ls d
  okk : KOk q k
section
variable {G : World → Prop} {C : TabC G} {D : KerC G} {w0 wr w' W : World} {p q : PD} {ls : List (List S3)} {vc vs vw : Value} {d : TbD} {k : KD} {cb kb : Nat} {F H : List Nat}
theorem TK.all (h : TK C D w0 wr p ls q vc vs vw d k cb F kb H) (hb : Below wr.heap.size wr w') : TK C D w0 w' p ls q vc vs vw d k cb F kb H :=
  ⟨C.frame h.T (KTouch.of (M := []) hb) (by simp), D.frame h.K (KTouch.of (M := []) hb) (by simp), h.ap, h.ok, h.okk⟩
theorem TK.since (h : TK C D w0 wr p ls q vc vs vw d k cb F kb H) : Below w0.heap.size w0 wr := C.since h.T
/-- Blocks of the caller's own are written. -/
theorem TK.set (h : TK C D w0 wr p ls q vc vs vw d k cb F kb H) {M : List Nat} (ht : KTouch M wr w') (hM : ∀ m ∈ M, m ∉ F ∧ m ∉ H ∧ w0.heap.size ≤ m) : TK C D w0 w' p ls q vc vs vw d k cb F kb H :=
  ⟨C.frame h.T ht (fun m hm => ⟨(hM m hm).1, (hM m hm).2.2⟩), D.frame h.K ht (fun m hm => ⟨(hM m hm).2.1, (hM m hm).2.2⟩), h.ap, h.ok, h.okk⟩
/-- Tables are asked. -/
theorem tk_ask (hz : tabE p ls = 0) (i : Int) (h : TK C D w0 W p ls q vc vs vw d k cb F kb H) :
    Calls Tryz.prog 8 #[.pointer (some ⟨cb, 0, none⟩), .int .i64 i] W fun e w' => e = .returned (wErr (askE ls i)) ∧ ∃ F', TK C D w0 w' p ls q vc vs vw (askT ls d i) k cb F' kb H ∧ KTouch F W w' ∧ ∀ g ∈ F', g ∈ F ∨ W.heap.size ≤ g := by
  refine (C.ask i h.T hz h.ok).mono ?_
  rintro e w' ⟨rfl, F', hT, tk, hF⟩
  refine ⟨rfl, F', ⟨hT, D.frame h.K tk (fun m hm => ⟨h.ap m hm, (C.ge h.T m hm).1⟩), fun g hg hm => ?_, askT_ok h.ok i, h.okk⟩, tk, hF⟩
  rcases hF g hg with h1 | h1
  · exact h.ap g h1 hm
  · have := (D.ge h.K g hm).2
    omega
/-- A tick of both, the tables' first. -/
theorem tk_tick (hG : G w0) (hz : tabE p ls = 0) (hq : plchk q = 0) (ht : d.k.time < 100000000) (htk : k.time < 100000000) (h : TK C D w0 W p ls q vc vs vw d k cb F kb H) :
    Calls Tryz.prog 9 #[.pointer (some ⟨cb, 0, none⟩)] W fun e w2 => e = .returned (evA (evT p ls d)) ∧ W.heap.size ≤ w2.heap.size ∧
      ∀ w3, Below w2.heap.size w2 w3 → Calls Tryz.prog 22 #[.pointer (some ⟨kb, 0, none⟩)] w3 fun e w' => e = .returned (evA (tickK q q.spans k).2) ∧ ∃ F' H', TK C D w0 w' p ls q vc vs vw (tickT p ls d) (tickK q q.spans k).1 cb F' kb H' ∧ (KTouch (F ++ H) W w' ∧ KTouch H w3 w') ∧ ∀ g ∈ F' ++ H', g ∈ F ++ H ∨ W.heap.size ≤ g := by
  refine (C.tick hG h.T hz h.ok ht).mono ?_
  rintro e w2 ⟨rfl, F', hT, tk, hF⟩
  refine ⟨rfl, tk.size, fun w3 b3 => ?_⟩
  have hK3 := D.frame (D.frame h.K tk (fun m hm => ⟨h.ap m hm, (C.ge h.T m hm).1⟩)) (KTouch.of (M := []) b3) (by simp)
  have hT3 := C.frame hT (KTouch.of (M := []) b3) (by simp)
  have hs2 := tk.size
  have hs3 := b3.size
  refine (D.tick hG hK3 hq h.okk htk).mono ?_
  rintro e w' ⟨rfl, H', hK', tk', hH⟩
  have hFH : ∀ g ∈ F', g ∉ H := fun g hg hm => by
    rcases hF g hg with h1 | h1
    · exact h.ap g h1 hm
    · have := (D.ge h.K g hm).2
      omega
  refine ⟨rfl, F', H', ⟨C.frame hT3 tk' (fun m hm => ⟨fun hf => hFH m hf hm, (D.ge h.K m hm).1⟩), hK', fun g hg hm => ?_, tickT_ok hz h.ok, tick_ok hq h.okk⟩, ⟨((tk.trans (KTouch.of b3)).mono (fun m hm => List.mem_append.2 (Or.inl hm))).trans (tk'.mono (fun m hm => List.mem_append.2 (Or.inr hm))), tk'⟩, fun g hg => ?_⟩
  · rcases hH g hm with h1 | h1
    · exact hFH g hg h1
    · have := (C.ge hT3 g hg).2
      omega
  · rcases List.mem_append.1 hg with h1 | h1
    · rcases hF g h1 with h2 | h2
      · exact Or.inl (List.mem_append.2 (Or.inl h2))
      · exact Or.inr h2
    · rcases hH g h1 with h2 | h2
      · exact Or.inl (List.mem_append.2 (Or.inr h2))
      · exact Or.inr (by omega)
theorem TK.hlt (h : TK C D w0 wr p ls q vc vs vw d k cb F kb H) : ∀ g ∈ F ++ H, g < wr.heap.size := fun g hg => by
  rcases List.mem_append.1 hg with h1 | h1
  · exact (C.ge h.T g h1).2
  · exact (D.ge h.K g h1).2
theorem TK.hge (h : TK C D w0 wr p ls q vc vs vw d k cb F kb H) : ∀ g ∈ F ++ H, w0.heap.size ≤ g := fun g hg => by
  rcases List.mem_append.1 hg with h1 | h1
  · exact (C.ge h.T g h1).1
  · exact (D.ge h.K g h1).1
theorem tk_now (hz : tabE p ls = 0) (h : TK C D w0 W p ls q vc vs vw d k cb F kb H) :
    Calls Tryz.prog 12 #[.pointer (some ⟨cb, 0, none⟩)] W fun e w' => e = .returned (.int .i64 (countT p d : Nat)) ∧ Below W.heap.size W w' := C.now h.T hz h.ok
end
end Go.Proofs.YteejpehfmnjgfagGreatDoor
