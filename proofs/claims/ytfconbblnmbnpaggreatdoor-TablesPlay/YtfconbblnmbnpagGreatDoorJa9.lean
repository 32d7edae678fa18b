/-
  KFrame, TPlays0, TPlays: joined into one text.
-/
import Derived.Test.YtfconbblnmbnpagGreatDoorKRefTick
import Derived.Test.YtfconbblnmbnpagGreatDoorKRefNew
import Derived.Test.YtfconbblnmbnpagGreatDoorJa2
import Derived.Test.YtfconbblnmbnpagGreatDoorJa1
import Derived.Deep.CutRange
import Derived.Deep.RegionWith
import Derived.Deep.RegionHeld3
import Derived.BigQuiet
import Derived.RangeFuncNested
namespace Go.Proofs.YtfconbblnmbnpagGreatDoor
open Go.RowKit

/-- The blocks of the document's kernel. -/
def KF (a : KW) : List Nat := a.kb :: a.rb :: a.lr :: (a.bs ++ a.us.filterMap Value.ownBlock)
theorem KF.m {a : KW} : ∀ g ∈ a.m, g ∈ KF a := fun g hg => by
  unfold KW.m at hg
  unfold KF
  simp only [List.mem_cons, List.mem_append] at hg ⊢
  rcases hg with h | h | h
  · exact Or.inl h
  · exact Or.inr (Or.inl h)
  · exact Or.inr (Or.inr (Or.inr (Or.inl h)))
theorem KF.us {a : KW} {us : List Value} {n : Nat} (h : ∀ u ∈ us, ∀ g, u.ownBlock = some g → OldU a g ∨ n ≤ g) : ∀ g ∈ KF { a with us := us }, g ∈ KF a ∨ n ≤ g := fun g hg => by
  unfold KF at hg ⊢
  simp only [List.mem_cons, List.mem_append, List.mem_filterMap] at hg ⊢
  rcases hg with h1 | h1 | h1 | h1 | ⟨u, h1, h2⟩
  · exact Or.inl (Or.inl h1)
  · exact Or.inl (Or.inr (Or.inl h1))
  · exact Or.inl (Or.inr (Or.inr (Or.inl h1)))
  · exact Or.inl (Or.inr (Or.inr (Or.inr (Or.inl h1))))
  · rcases h u h1 g h2 with ⟨u0, h3, h4⟩ | h3
    · exact Or.inl (Or.inr (Or.inr (Or.inr (Or.inr ⟨u0, h3, h4⟩))))
    · exact Or.inr h3
theorem RK.flt {w : World} {base : Nat} {p : PD} {vc vs vw : Value} {k : KD} {a : KW} (h : RK w base p vc vs vw k a) : ∀ g ∈ KF a, g < w.heap.size := fun g hg => by
  have hle := h.le
  unfold KF at hg
  simp only [List.mem_cons, List.mem_append, List.mem_filterMap] at hg
  rcases hg with h1 | h1 | h1 | h1 | ⟨u, h1, h2⟩
  · have := h.lt.1; omega
  · have := h.lt.2.1; omega
  · have := h.lt.2.2.1; omega
  · have := h.lt.2.2.2 g h1; omega
  · exact (h.rows u h1 g h2).2
/-- What is written elsewhere leaves it as it is. -/
theorem RK.frame {w w' : World} {base : Nat} {p : PD} {vc vs vw : Value} {k : KD} {a : KW} (h : RK w base p vc vs vw k a) {M : List Nat} (ht : KTouch M w w') (hM : ∀ m ∈ M, m ∉ KF a) : RK w' base p vc vs vw k a := by
  have hin : ∀ g, g ∈ KF a → w'.heap[g]? = w.heap[g]? := fun g hg => ht.block g (h.flt g hg) (fun hm => hM g hm hg)
  have m1 : a.kb ∈ KF a := by simp [KF]
  have m2 : a.rb ∈ KF a := by simp [KF]
  have m3 : a.lr ∈ KF a := by simp [KF]
  have m4 : ∀ b ∈ a.bs, b ∈ KF a := fun b hb => by simp [KF, hb]
  have m5 : ∀ u ∈ a.us, ∀ g, u.ownBlock = some g → g ∈ KF a := fun u hu g hg => by
    unfold KF
    simp only [List.mem_cons, List.mem_append, List.mem_filterMap]
    exact Or.inr (Or.inr (Or.inr (Or.inr ⟨u, hu, hg⟩)))
  have hc := fun o => World.cell?_of_block (w := w) (w' := w') (a := ⟨a.kb, o, none⟩) (hin _ m1)
  have hf := fun o => World.frozen?_of_block (w := w) (w' := w') (a := ⟨a.kb, o, none⟩) (hin _ m1)
  have hrf := fun o => World.frozen?_of_block (w := w) (w' := w') (a := ⟨a.rb, o, none⟩) (hin _ m2)
  have hlr := fun o => World.cell?_of_block (w := w) (w' := w') (a := ⟨a.lr, o, none⟩) (hin _ m3)
  refine ⟨(hc 0).trans h.c0, (hc 1).trans h.c1, (hc 2).trans h.c2, (hc 3).trans h.c3, (hc 4).trans h.c4, (hc 5).trans h.c5, (hc 6).trans h.c6, (hf 6).trans h.f6, fun i s hs => (h.rooms i s hs).block (hin _ m2), fun o => (hrf o).trans (h.rf o), h.lv, fun i b hi => (hlr i).trans (h.ptr i b hi), h.bl, h.ul, fun i l b u h1 h2 h3 => (h.line i l b u h1 h2 h3).touch ht (fun hm => ?_) (fun g hg hm => ?_), h.ge, h.lt, Nat.le_trans h.le ht.size, h.apart, h.two, h.ft.block (fun b hb => hin b (m4 b hb))⟩
  · exact hM b hm (m4 b (List.mem_of_getElem? h2))
  · exact hM g hm (m5 u (List.mem_of_getElem? h3) g hg)
theorem RK.lower {w : World} {base base' : Nat} {p : PD} {vc vs vw : Value} {k : KD} {a : KW} (h : RK w base p vc vs vw k a) (hb : base' ≤ base) : RK w base' p vc vs vw k a :=
  ⟨h.c0, h.c1, h.c2, h.c3, h.c4, h.c5, h.c6, h.f6, h.rooms, h.rf, h.lv, h.ptr, h.bl, h.ul, h.line, ⟨Nat.le_trans hb h.ge.1, Nat.le_trans hb h.ge.2.1, fun b hm => Nat.le_trans hb (h.ge.2.2 b hm)⟩, h.lt, h.le, h.apart, h.two, h.ft⟩
end Go.Proofs.YtfconbblnmbnpagGreatDoor
namespace Go.Proofs.YtfconbblnmbnpagGreatDoor
open Go.RowKit

theorem RK.withS {w : World} {base : Nat} {p : PD} {vc vs vw : Value} {k : KD} {a : KW} (h : RK w base p vc vs vw k a) (sp : List S3) : RK w base (Go.Proofs.YtfconbblnmbnpagGreatDoor.withS p sp) vc vs vw k a :=
  ⟨h.c0, h.c1, h.c2, h.c3, h.c4, h.c5, h.c6, h.f6, h.rooms, h.rf, h.lv, h.ptr, h.bl, h.ul, h.line, h.ge, h.lt, h.le, h.apart, h.two, h.ft⟩
theorem RK.withS' {w : World} {base : Nat} {p : PD} {sp : List S3} {vc vs vw : Value} {k : KD} {a : KW} (h : RK w base (Go.Proofs.YtfconbblnmbnpagGreatDoor.withS p sp) vc vs vw k a) : RK w base p vc vs vw k a :=
  ⟨h.c0, h.c1, h.c2, h.c3, h.c4, h.c5, h.c6, h.f6, h.rooms, h.rf, h.lv, h.ptr, h.bl, h.ul, h.line, h.ge, h.lt, h.le, h.apart, h.two, h.ft⟩
/-- Neither has what the other one has. -/
structure TR {G : World → Prop} (C : TabC G) (w0 wr : World) (p : PD) (ls : List (List S3)) (vc vs vw : Value) (d : TbD) (cb : Nat) (F : List Nat) (a : KW) : Prop where
  T : C.K w0 wr p ls d cb F
  R : RK wr w0.heap.size p vc vs vw d.k a
  ap : ∀ g ∈ F, g ∉ KF a
  ok : TOk p ls d
  code : Cds w0 vc p.code
section
variable {G : World → Prop} {C : TabC G} {w0 wr w' W : World} {p : PD} {ls : List (List S3)} {vc vs vw : Value} {d : TbD} {cb : Nat} {F : List Nat} {a : KW}
theorem TR.all (h : TR C w0 wr p ls vc vs vw d cb F a) (hb : Below wr.heap.size wr w') : TR C w0 w' p ls vc vs vw d cb F a :=
  ⟨C.frame h.T (KTouch.of (M := []) hb) (by simp), h.R.all hb, h.ap, h.ok, h.code⟩
theorem TR.flt (h : TR C w0 wr p ls vc vs vw d cb F a) : ∀ g ∈ F ++ KF a, g < wr.heap.size := fun g hg => by
  rcases List.mem_append.1 hg with h1 | h1
  · exact (C.ge h.T g h1).2
  · exact h.R.flt g h1
theorem TR.mge (h : TR C w0 wr p ls vc vs vw d cb F a) : ∀ g ∈ F ++ a.m, w0.heap.size ≤ g := fun g hg => by
  rcases List.mem_append.1 hg with h1 | h1
  · exact (C.ge h.T g h1).1
  · exact h.R.mge g h1
/-- A block of the caller's own is written. -/
theorem TR.set (h : TR C w0 wr p ls vc vs vw d cb F a) {b : Nat} (ht : KTouch [b] wr w') (hb : b ∉ F ++ KF a) (hw : w0.heap.size ≤ b) : TR C w0 w' p ls vc vs vw d cb F a := by
  rw [List.mem_append] at hb
  refine ⟨C.frame h.T ht (fun m hm => ?_), h.R.frame ht (fun m hm => ?_), h.ap, h.ok, h.code⟩
  · rw [List.mem_singleton] at hm
    subst hm
    exact ⟨fun e => hb (Or.inl e), hw⟩
  · rw [List.mem_singleton] at hm
    subst hm
    exact fun e => hb (Or.inr e)
/-- Tables are asked. -/
theorem tr_ask (hz : tabE p ls = 0) (i : Int) (h : TR C w0 W p ls vc vs vw d cb F a) :
    Calls Tryz.prog 8 #[.pointer (some ⟨cb, 0, none⟩), .int .i64 i] W fun e w' => e = .returned (wErr (askE ls i)) ∧ ∃ F', TR C w0 w' p ls vc vs vw (askT ls d i) cb F' a ∧ KTouch (F ++ a.m) W w' := by
  refine (C.ask i h.T hz h.ok).mono ?_
  rintro e w' ⟨rfl, F', hT, tk, hF⟩
  refine ⟨rfl, F', ⟨hT, by rw [(askT_k ls d i).1]; exact h.R.frame tk (fun m hm => h.ap m hm), fun g hg hm => ?_, askT_ok h.ok i, h.code⟩, tk.mono (fun m hm => List.mem_append.2 (Or.inl hm))⟩
  rcases hF g hg with h1 | h1
  · exact h.ap g h1 hm
  · have := h.R.flt g hm
    omega
/-- A tick of both. -/
theorem tr_tick (hG : G w0) (hz : tabE p ls = 0) (ht : d.k.time < 100000000) (h : TR C w0 W p ls vc vs vw d cb F a) (ua : Option Addr) (uc : Nat) (hsp : Sps w0 (.slice ua (spanT p ls d).length uc) (spanT p ls d)) :
    Calls Tryz.prog 9 #[.pointer (some ⟨cb, 0, none⟩)] W fun e w2 => e = .returned (evA (evT p ls d)) ∧ KTouch F W w2 ∧
      ∀ w3, Below w2.heap.size w2 w3 → Calls Tryz.prog 10 #[.pointer (some ⟨a.kb, 0, none⟩), .slice ua (spanT p ls d).length uc] w3 fun e w' => e = .returned (evA (evT p ls d)) ∧ ∃ F' a', TR C w0 w' p ls vc vs vw (tickT p ls d) cb F' a' ∧ KTouch (F ++ a.m) W w' ∧ a'.kb = a.kb := by
  have hp := spanT_right hz h.ok
  have hfz := fchk_zero (plchk_zero hp).2.2.1
  refine (C.tick hG h.T hz h.ok ht).mono ?_
  rintro e w2 ⟨rfl, F', hT, tk, hF⟩
  refine ⟨rfl, tk, fun w3 b3 => ?_⟩
  have hT3 := C.frame hT (KTouch.of (M := []) b3) (by simp)
  have hR3 := ((h.R.frame tk (fun m hm => h.ap m hm)).all b3).withS (spanT p ls d)
  have hs2 := tk.size
  have hs3 := b3.size
  refine (tickby_any (withS p (spanT p ls d)) vc vs vw (spanT p ls d) ua uc d.k a w0.heap.size w3 hp (h.ok.k.withS _) ht hR3 w0 rfl (C.since hT3) h.code hsp hfz.2.2.1 (fun t => who_room hp t)).mono ?_
  rintro e w' ⟨rfl, ⟨us, hR', hus⟩, tkr⟩
  have hFlt : ∀ g ∈ F', g ∉ KF a := fun g hg hm => by
    rcases hF g hg with h1 | h1
    · exact h.ap g h1 hm
    · have := h.R.flt g hm
      omega
  have hnew := KF.us hus
  refine ⟨rfl, F', { a with us := us }, ⟨C.frame hT3 tkr (fun m hm => ⟨fun hmf => hFlt m hmf (KF.m m hm), h.R.mge m hm⟩), RK.withS' (sp := spanT p ls d) hR', fun g hg hm => ?_, tickT_ok hz h.ok, h.code⟩, ((tk.trans (KTouch.of b3)).mono (fun m hm => List.mem_append.2 (Or.inl hm))).trans (tkr.mono (fun m hm => List.mem_append.2 (Or.inr hm))), rfl⟩
  rcases hnew g hm with h1 | h1
  · exact hFlt g hg h1
  · have := (C.ge hT3 g hg).2
    omega
end
end Go.Proofs.YtfconbblnmbnpagGreatDoor
namespace Go.Proofs.YtfconbblnmbnpagGreatDoor
open Go.RowKit

theorem listsE_drop {p : PD} {ls : List (List S3)} {k : Nat} {l : List S3} (h : ls[k]? = some l) : listsE p (ls.drop k) = if plchk (withS p l) = 0 then listsE p (ls.drop (k + 1)) else plchk (withS p l) := by
  obtain ⟨h1, rfl⟩ := List.getElem?_eq_some_iff.1 h
  rw [List.drop_eq_getElem_cons h1, listsE]
theorem KF_ge' {w : World} {base : Nat} {p : PD} {vc vs vw : Value} {k : KD} {a : KW} (hR : RK w base p vc vs vw k a) (hlr : base ≤ a.lr) : ∀ g ∈ KF a, base ≤ g := fun g hm => by
  unfold KF at hm
  simp only [List.mem_cons, List.mem_append, List.mem_filterMap] at hm
  rcases hm with h1 | h1 | h1 | h1 | ⟨u, h1, h2⟩
  · have := hR.ge.1; omega
  · have := hR.ge.2.1; omega
  · omega
  · exact hR.ge.2.2 g h1
  · have := (hR.rows u h1 g h2).1
    have := hR.lt.1
    have := hR.ge.1
    omega
set_option maxRecDepth 1000000 in
set_option maxHeartbeats 8000000 in
theorem tplays_no {G : World → Prop} (C : TabC G) (hE : ∀ (e : Int) (W : World), G W → Calls Tryz.prog 6 #[wErr e, .int .i64 e] W fun r w' => r = .returned (.bool true) ∧ Below W.heap.size W w')
    (hR : ∀ (p : PD) (vc vs vw : Value) (W : World), Pln W vc vs vw p → Calls Tryz.prog 4 #[plV vc p.ticks vs vw] W fun e w' => e = .returned (.int .i64 (plchk p)) ∧ Below W.heap.size W w')
    (p : PD) (vc vs vw lv sv : Value) (ls : List (List S3)) (xs : List Int) (r : Int) (w : World) (hG : G w) (hP : Pln w vc vs vw p) (hL : Spl w lv ls) (hS : Stp w sv xs) (hz : tabE p ls ≠ 0) :
    Calls Tryz.prog 3 #[plV vc p.ticks vs vw, lv, sv, .int .i64 r] w fun e w' => e = .returned (.bool true) ∧ Below w.heap.size w w' := by
  obtain ⟨ca, cc, rfl⟩ := hP.code.form
  obtain ⟨sa, sc, rfl⟩ := hP.spans.form
  obtain ⟨wa, wc', rfl⟩ := hP.wires.form
  obtain ⟨la, lc, rfl⟩ := hL.form
  obtain ⟨xa, xc, rfl⟩ := hS.form
  have hx0 := Bx.first w (.slice ca p.code.length cc) p.ticks (.slice sa p.spans.length sc) (.slice wa p.wires.length wc')
  generalize hW0 : w.alloc (.cells #[.slice ca p.code.length cc, .int .i64 p.ticks, .slice sa p.spans.length sc, .slice wa p.wires.length wc'] 26) = W0 at hx0
  have HP : Hid (Pln w (.slice ca p.code.length cc) (.slice sa p.spans.length sc) (.slice wa p.wires.length wc') p) := hP
  have HL : Hid (Spl w (.slice la ls.length lc) ls) := hL
  have HG : Hid (∀ W, Below w.heap.size w W → G W) := fun W hb => C.all w W hG hb
  have HE : Hid (∀ (e : Int) (W : World), G W → Calls Tryz.prog 6 #[wErr e, .int .i64 e] W fun r w' => r = .returned (.bool true) ∧ Below W.heap.size W w') := hE
  have HR : Hid (∀ (l : List S3) (u : Option Addr) (g : Nat) (W : World), Below w.heap.size w W → Sps w (.slice u l.length g) l → Calls Tryz.prog 4 #[.agg #[.slice ca p.code.length cc, .int .i64 p.ticks, .slice u l.length g, .slice wa p.wires.length wc']] W fun e w' => e = .returned (.int .i64 (plchk (withS p l))) ∧ Below W.heap.size W w') := fun l u g W hb hl => hR (withS p l) _ _ _ W ⟨(hP.all hb).code, hl.all hb, (hP.all hb).wires⟩
  unfold plV
  have HN : Hid (∀ W, Below w.heap.size w W → Calls Tryz.prog 5 #[.agg #[.slice ca p.code.length cc, .int .i64 p.ticks, .slice sa p.spans.length sc, .slice wa p.wires.length wc'], .slice la ls.length lc] W fun e w' => ∃ x, e = .returned (.tuple #[.pointer x, .iface 64 (.int .i64 (tabE p ls))]) ∧ Below W.heap.size W w') := fun W hb => by
    have := C.no p _ _ _ _ ls W (HG.out W hb) (hP.all hb) (hL.all hb) hz
    rw [wErr_not hz] at this
    exact this
  have HE2 : Hid (∀ W, Below w.heap.size w W → Calls Tryz.prog 6 #[.iface 64 (.int .i64 (tabE p ls)), .int .i64 (tabE p ls)] W fun r w' => r = .returned (.bool true) ∧ Below W.heap.size W w') := fun W hb => by
    have := HE.out (tabE p ls) W (HG.out W hb)
    rw [wErr_not hz] at this
    exact this
  have HZ : Hid (tabE p ls ≠ 0) := hz
  clear hP hG hE hR hz hL hS
  by_cases h4 : 4 < ls.length
  · have he : tabE p ls = 4 := by
      unfold tabE
      rw [if_pos h4]
    rw [he] at HN HE2
    have h4' : decide (4 < (ls.length : Int)) = true := decide_eq_true (by omega)
    have h4i : (4 : Int) < (ls.length : Int) := by omega
    have h0i : (0 : Int) < (ls.length : Int) := by omega
    go_enter Tryz.func3, Tryz.ntmps3
    go_upto_region 1 with fail
    clear hW0
    go_wp2
    refine wp_loop_rounds 1 ?_
    rw [rounds_succ]
    have hx := hx0
    have qn := HN.out W0 hx.below
    have k0 := hx.c0
    have k1 := hx.c1
    have k2 := hx.c2
    have k3 := hx.c3
    go_wp2_with (first
      | (go_at_call 5; refine qn.mono ?_; rintro e w2 ⟨xp, rfl, b2⟩; clear qn; have hx2 := hx.step b2; have qe := HE2.out w2 hx2.below)
      | (go_at_call 6; refine qe.mono ?_; rintro e w3 ⟨rfl, b3⟩; clear qe))
    go_ret
    exact ⟨rfl, hx2.below.trans (b3.mono hx2.below.size)⟩
  have h4' : decide (4 < (ls.length : Int)) = false := decide_eq_false (by omega)
  by_cases h0 : ls.length = 0
  · have he : tabE p ls = 5 := by
      unfold tabE
      rw [if_neg h4, if_pos h0]
    rw [he] at HN HE2
    rw [h0] at HN h4' ⊢
    clear h0 h4 he
    go_enter Tryz.func3, Tryz.ntmps3
    go_upto_region 1 with fail
    clear hW0
    go_wp2
    refine wp_loop_rounds 1 ?_
    rw [rounds_succ]
    have hx := hx0
    have qn := HN.out W0 hx.below
    have k0 := hx.c0
    have k1 := hx.c1
    have k2 := hx.c2
    have k3 := hx.c3
    go_wp2_with (first
      | (go_at_call 5; refine qn.mono ?_; rintro e w2 ⟨xp, rfl, b2⟩; clear qn; have hx2 := hx.step b2; have qe := HE2.out w2 hx2.below)
      | (go_at_call 6; refine qe.mono ?_; rintro e w3 ⟨rfl, b3⟩; clear qe))
    go_ret
    exact ⟨rfl, hx2.below.trans (b3.mono hx2.below.size)⟩
  have he : tabE p ls = listsE p ls := by
    unfold tabE
    rw [if_neg h4, if_neg h0]
  have HZ2 : Hid (listsE p ls ≠ 0) := by rw [← he]; exact HZ.out
  rw [he] at HN HE2
  have hn0 : ((ls.length : Int) == 0) = false := by
    simp only [beq_eq_false_iff_ne, ne_eq]
    omega
  have hn1 : (ls.length == 0) = false := by
    simp only [beq_eq_false_iff_ne, ne_eq]
    omega
  clear he HZ
  go_enter Tryz.func3, Tryz.ntmps3
  go_upto_region 1 with fail
  clear hW0
  go_wp2
  go_loopw [9, 10] (fun s9 s10 wr => ∃ (k : Nat) (z : Int), k ≤ ls.length ∧ s10 = .int .i64 k ∧ s9 = .int .i64 z ∧ ((z = 0 ∧ listsE p ls = listsE p (ls.drop k)) ∨ (z ≠ 0 ∧ listsE p ls = z)) ∧ Bx w wr (.slice ca p.code.length cc) p.ticks (.slice sa p.spans.length sc) (.slice wa p.wires.length wc')) (fun _ s _ => ls.length - (intOf s).toNat)
  case atStart => exact ⟨0, 0, Nat.zero_le _, rfl, rfl, Or.inl ⟨rfl, rfl⟩, hx0⟩
  case round =>
  clear hx0
  obtain ⟨k, z, hk, rfl, rfl, hzz, hx⟩ := hrel
  rcases hzz with ⟨rfl, hdr⟩ | ⟨hnz, hle⟩
  · have HDR : Hid (listsE p ls = listsE p (ls.drop k)) := hdr
    clear hdr
    by_cases hkl : k < ls.length
    · have hki : (k : Int) < (ls.length : Int) := by omega
      obtain ⟨lb, lo, uu, ug, ll, rfl, hlb, hlm, hlcl, hlsp⟩ := HL.out.at hkl
      have HLD : Hid (listsE p ls = if plchk (withS p ll) = 0 then listsE p (ls.drop (k + 1)) else plchk (withS p ll)) := by
        show _ = _
        rw [HDR.out, listsE_drop hlm]
      clear hlm HDR
      have k0 := hx.c0
      have k1 := hx.c1
      have k2 := hx.c2
      have k3 := hx.c3
      go_upto_region 10 with fail
      have bB : Below wr.heap.size wr (wr.alloc (.cells #[.slice ca p.code.length cc, .int .i64 p.ticks, .slice sa p.spans.length sc, .slice wa p.wires.length wc'] 26)) := (Below.refl _ _).alloc (Nat.le_refl _) _
      have hblk : (wr.alloc (.cells #[.slice ca p.code.length cc, .int .i64 p.ticks, .slice sa p.spans.length sc, .slice wa p.wires.length wc'] 26)).heap[wr.heap.size]? = some (.cells #[.slice ca p.code.length cc, .int .i64 p.ticks, .slice sa p.spans.length sc, .slice wa p.wires.length wc'] 26 (0, 0)) := World.alloc_heap_new wr _
      have hqw : w.heap.size + 1 ≤ wr.heap.size := hx.size
      have hx8 := hx.step bB
      clear bB k0 k1 k2 k3
      generalize wr.alloc (.cells #[.slice ca p.code.length cc, .int .i64 p.ticks, .slice sa p.spans.length sc, .slice wa p.wires.length wc'] 26) = W8 at hblk hx8 ⊢
      generalize wr.heap.size = qb at hblk hqw ⊢
      have lcl := (hx8.below.cell (p := ⟨lb, lo + k, none⟩) hlb).trans hlcl
      have qc2 : W8.cell? ⟨qb, 2, none⟩ = some (.slice sa p.spans.length sc) := by simp [World.cell?, hblk]
      have qf2 : W8.frozen? ⟨qb, 2, none⟩ = false := by simp [World.frozen?, hblk]
      go_upto_region 11 with fail
      have tkq : KTouch [qb] W8 (W8.setCell ⟨qb, 2, none⟩ (.slice uu ll.length ug)) := KTouch.set W8 (by simp) 2 _
      have hblk9 : (W8.setCell ⟨qb, 2, none⟩ (.slice uu ll.length ug)).heap[qb]? = some (.cells #[.slice ca p.code.length cc, .int .i64 p.ticks, .slice uu ll.length ug, .slice wa p.wires.length wc'] 26 (0, 0)) := by simp [World.setCell, Array.getElem?_modify, hblk]
      have hx9 : Bx w (W8.setCell ⟨qb, 2, none⟩ (.slice uu ll.length ug)) (.slice ca p.code.length cc) p.ticks (.slice sa p.spans.length sc) (.slice wa p.wires.length wc') := Below.trans hx8 (tkq.below (fun m hm => by rw [List.mem_singleton] at hm; omega) hx8.size)
      clear hblk qc2 qf2 lcl tkq hx8 hx
      generalize W8.setCell ⟨qb, 2, none⟩ (.slice uu ll.length ug) = W9 at hblk9 hx9 ⊢
      have q0 : W9.cell? ⟨qb, 0, none⟩ = some (.slice ca p.code.length cc) := by simp [World.cell?, hblk9]
      have q1 : W9.cell? ⟨qb, 1, none⟩ = some (.int .i64 p.ticks) := by simp [World.cell?, hblk9]
      have q2 : W9.cell? ⟨qb, 2, none⟩ = some (.slice uu ll.length ug) := by simp [World.cell?, hblk9]
      have q3 : W9.cell? ⟨qb, 3, none⟩ = some (.slice wa p.wires.length wc') := by simp [World.cell?, hblk9]
      have qp := HR.out ll uu ug W9 hx9.below hlsp
      obtain ⟨z, hz⟩ : ∃ z, z = plchk (withS p ll) := ⟨_, rfl⟩
      rw [← hz] at qp HLD
      clear hz
      go_wp2_with (go_at_call 4; refine qp.mono ?_; rintro e wN ⟨rfl, bN⟩; clear qp)
      have hxN := hx9.step bN
      clear q0 q1 q2 q3 hblk9 hx9 bN
      have HNx : Hid ((z = 0 ∧ listsE p ls = listsE p (ls.drop (k + 1))) ∨ (z ≠ 0 ∧ listsE p ls = z)) := by
        by_cases hz : z = 0
        · exact Or.inl ⟨hz, by rw [HLD.out, if_pos hz]⟩
        · exact Or.inr ⟨hz, by rw [HLD.out, if_neg hz]⟩
      clear HLD
      go_roundw
      case rel => exact ⟨k + 1, z, by omega, by go_num, rfl, HNx.out, hxN⟩
      case measure => simp [intOf]; omega
    · exfalso
      have := HDR.out
      rw [List.drop_eq_nil_of_le (by omega)] at this
      exact HZ2.out this
  · have hnb : (z == 0) = false := by simpa using hnz
    have hnn : (z != 0) = true := by simpa using hnz
    rw [hle] at HN HE2
    have qn := HN.out wr hx.below
    have k0 := hx.c0
    have k1 := hx.c1
    have k2 := hx.c2
    have k3 := hx.c3
    clear hle
    by_cases hkl : k < ls.length
    · have hki : (k : Int) < (ls.length : Int) := by omega
      go_wp2_with (first
        | (go_at_call 5; refine qn.mono ?_; rintro e w2 ⟨xp, rfl, b2⟩; clear qn; have hx2 := hx.step b2; have qe := HE2.out w2 hx2.below)
        | (go_at_call 6; refine qe.mono ?_; rintro e w3 ⟨rfl, b3⟩; clear qe))
      go_ret
      exact ⟨rfl, hx2.below.trans (b3.mono hx2.below.size)⟩
    · have hki : decide ((k : Int) < (ls.length : Int)) = false := decide_eq_false (by omega)
      have hkn : decide (k < ls.length) = false := decide_eq_false hkl
      go_wp2_with (first
        | (go_at_call 5; refine qn.mono ?_; rintro e w2 ⟨xp, rfl, b2⟩; clear qn; have hx2 := hx.step b2; have qe := HE2.out w2 hx2.below)
        | (go_at_call 6; refine qe.mono ?_; rintro e w3 ⟨rfl, b3⟩; clear qe))
      go_ret
      exact ⟨rfl, hx2.below.trans (b3.mono hx2.below.size)⟩
set_option maxRecDepth 1000000 in
set_option maxHeartbeats 16000000 in
theorem tplays_ok {G : World → Prop} (C : TabC G) (CS : TabState C) (hE : ∀ (e : Int) (W : World), G W → Calls Tryz.prog 6 #[wErr e, .int .i64 e] W fun r w' => r = .returned (.bool true) ∧ Below W.heap.size W w')
    (hR : ∀ (p : PD) (vc vs vw : Value) (W : World), Pln W vc vs vw p → Calls Tryz.prog 4 #[plV vc p.ticks vs vw] W fun e w' => e = .returned (.int .i64 (plchk p)) ∧ Below W.heap.size W w')
    (p : PD) (vc vs vw lv sv : Value) (ls : List (List S3)) (xs : List Int) (r : Int) (w : World) (hG : G w) (hP : Pln w vc vs vw p) (hL : Spl w lv ls) (hS : Stp w sv xs) (hxr : ∀ x ∈ xs, x ≤ 9223372036854775807) (hz : tabE p ls = 0) :
    Calls Tryz.prog 3 #[plV vc p.ticks vs vw, lv, sv, .int .i64 r] w fun e w' => e = .returned (.bool true) ∧ Below w.heap.size w w' := by
  obtain ⟨ca, cc, rfl⟩ := hP.code.form
  obtain ⟨sa, sc, rfl⟩ := hP.spans.form
  obtain ⟨wa, wc', rfl⟩ := hP.wires.form
  obtain ⟨la, lc, rfl⟩ := hL.form
  obtain ⟨xa, xc, rfl⟩ := hS.form
  have hx0 := Bx.first w (.slice ca p.code.length cc) p.ticks (.slice sa p.spans.length sc) (.slice wa p.wires.length wc')
  generalize hW0 : w.alloc (.cells #[.slice ca p.code.length cc, .int .i64 p.ticks, .slice sa p.spans.length sc, .slice wa p.wires.length wc'] 26) = W0 at hx0
  have HP : Hid (Pln w (.slice ca p.code.length cc) (.slice sa p.spans.length sc) (.slice wa p.wires.length wc') p) := hP
  have HL : Hid (Spl w (.slice la ls.length lc) ls) := hL
  have HG : Hid (∀ W, Below w.heap.size w W → G W) := fun W hb => C.all w W hG hb
  have HE : Hid (∀ (e : Int) (W : World), G W → Calls Tryz.prog 6 #[wErr e, .int .i64 e] W fun r w' => r = .returned (.bool true) ∧ Below W.heap.size W w') := hE
  have HR : Hid (∀ (l : List S3) (u : Option Addr) (g : Nat) (W : World), Below w.heap.size w W → Sps w (.slice u l.length g) l → Calls Tryz.prog 4 #[.agg #[.slice ca p.code.length cc, .int .i64 p.ticks, .slice u l.length g, .slice wa p.wires.length wc']] W fun e w' => e = .returned (.int .i64 (plchk (withS p l))) ∧ Below W.heap.size W w') := fun l u g W hb hl => hR (withS p l) _ _ _ W ⟨(hP.all hb).code, hl.all hb, (hP.all hb).wires⟩
  unfold plV
  obtain ⟨hl4, hl0, hlz⟩ := tabE_zero hz
  have HN : Hid (∀ W, Below w.heap.size w W → Calls Tryz.prog 5 #[.agg #[.slice ca p.code.length cc, .int .i64 p.ticks, .slice sa p.spans.length sc, .slice wa p.wires.length wc'], .slice la ls.length lc] W fun e w' => ∃ cb F, e = .returned (.tuple #[.pointer (some ⟨cb, 0, none⟩), .nilIface]) ∧ C.K W w' p ls (newT p) cb F) := fun W hb => C.new p _ _ _ _ ls W (HG.out W hb) (hP.all hb) (hL.all hb) hz
  have HE2 : Hid (∀ W, Below w.heap.size w W → Calls Tryz.prog 6 #[.nilIface, .int .i64 0] W fun r w' => r = .returned (.bool true) ∧ Below W.heap.size W w') := fun W hb => HE.out 0 W (HG.out W hb)
  have HS : Hid (Stp w (.slice xa xs.length xc) xs) := hS
  have HXR : Hid (∀ x ∈ xs, x ≤ 9223372036854775807) := hxr
  have HLZ : Hid (∀ s ∈ ls, plchk (withS p s) = 0) := hlz
  have hz0 := hlz _ (List.getElem_mem hl0)
  have hc5 : p.code.length ≤ 5 := (plchk_zero hz0).1
  have hw12 : p.wires.length ≤ 12 := (wschk_ok (plchk_zero hz0).2.2.2.1).1
  have htk1 : 1 ≤ p.ticks := (fchk_zero (plchk_zero hz0).2.2.1).1
  have htk2 : p.ticks ≤ 40 := (fchk_zero (plchk_zero hz0).2.2.1).2.1
  have HK : Hid (∀ W, Below w.heap.size w W → Calls Tryz.prog 7 #[.agg #[.slice ca p.code.length cc, .int .i64 p.ticks, .slice sa p.spans.length sc, .slice wa p.wires.length wc']] W fun e w' => ∃ a : KW, e = .returned (.pointer (some ⟨a.kb, 0, none⟩)) ∧ W.heap.size ≤ a.lr ∧ RK w' W.heap.size p (.slice ca p.code.length cc) (.slice sa p.spans.length sc) (.slice wa p.wires.length wc') (newK p) a ∧ Below W.heap.size W w') := fun W hb => newkernel_loose p _ _ _ W hc5 hw12 (HP.out.all hb).code (HP.out.all hb).wires
  have h4' : decide (4 < (ls.length : Int)) = false := decide_eq_false (by omega)
  have hn0 : ((ls.length : Int) == 0) = false := by
    simp only [beq_eq_false_iff_ne, ne_eq]
    omega
  have hn1 : (ls.length == 0) = false := by
    simp only [beq_eq_false_iff_ne, ne_eq]
    omega
  clear hP hG hE hR hL hS hxr hlz hz0 hw12
  go_enter Tryz.func3, Tryz.ntmps3
  go_upto_region 1 with fail
  clear hW0
  go_wp2
  go_loopw [9, 10] (fun s9 s10 wr => ∃ (k : Nat), k ≤ ls.length ∧ s10 = .int .i64 k ∧ s9 = .int .i64 0 ∧ Bx w wr (.slice ca p.code.length cc) p.ticks (.slice sa p.spans.length sc) (.slice wa p.wires.length wc')) (fun _ s _ => ls.length - (intOf s).toNat)
  case atStart => exact ⟨0, Nat.zero_le _, rfl, rfl, hx0⟩
  case round =>
  clear hx0
  obtain ⟨k, hk, rfl, rfl, hx⟩ := hrel
  by_cases hkl : k < ls.length
  case pos =>
    have hki : (k : Int) < (ls.length : Int) := by omega
    obtain ⟨lb, lo, uu, ug, ll, rfl, hlb, hlm, hlcl, hlsp⟩ := HL.out.at hkl
    have hzl := HLZ.out ll (List.mem_of_getElem? hlm)
    clear hlm
    have k0 := hx.c0
    have k1 := hx.c1
    have k2 := hx.c2
    have k3 := hx.c3
    go_upto_region 10 with fail
    have bB : Below wr.heap.size wr (wr.alloc (.cells #[.slice ca p.code.length cc, .int .i64 p.ticks, .slice sa p.spans.length sc, .slice wa p.wires.length wc'] 26)) := (Below.refl _ _).alloc (Nat.le_refl _) _
    have hblk : (wr.alloc (.cells #[.slice ca p.code.length cc, .int .i64 p.ticks, .slice sa p.spans.length sc, .slice wa p.wires.length wc'] 26)).heap[wr.heap.size]? = some (.cells #[.slice ca p.code.length cc, .int .i64 p.ticks, .slice sa p.spans.length sc, .slice wa p.wires.length wc'] 26 (0, 0)) := World.alloc_heap_new wr _
    have hqw : w.heap.size + 1 ≤ wr.heap.size := hx.size
    have hx8 := hx.step bB
    clear bB k0 k1 k2 k3
    generalize wr.alloc (.cells #[.slice ca p.code.length cc, .int .i64 p.ticks, .slice sa p.spans.length sc, .slice wa p.wires.length wc'] 26) = W8 at hblk hx8 ⊢
    generalize wr.heap.size = qb at hblk hqw ⊢
    have lcl := (hx8.below.cell (p := ⟨lb, lo + k, none⟩) hlb).trans hlcl
    have qc2 : W8.cell? ⟨qb, 2, none⟩ = some (.slice sa p.spans.length sc) := by simp [World.cell?, hblk]
    have qf2 : W8.frozen? ⟨qb, 2, none⟩ = false := by simp [World.frozen?, hblk]
    go_upto_region 11 with fail
    have tkq : KTouch [qb] W8 (W8.setCell ⟨qb, 2, none⟩ (.slice uu ll.length ug)) := KTouch.set W8 (by simp) 2 _
    have hblk9 : (W8.setCell ⟨qb, 2, none⟩ (.slice uu ll.length ug)).heap[qb]? = some (.cells #[.slice ca p.code.length cc, .int .i64 p.ticks, .slice uu ll.length ug, .slice wa p.wires.length wc'] 26 (0, 0)) := by simp [World.setCell, Array.getElem?_modify, hblk]
    have hx9 : Bx w (W8.setCell ⟨qb, 2, none⟩ (.slice uu ll.length ug)) (.slice ca p.code.length cc) p.ticks (.slice sa p.spans.length sc) (.slice wa p.wires.length wc') := Below.trans hx8 (tkq.below (fun m hm => by rw [List.mem_singleton] at hm; omega) hx8.size)
    clear hblk qc2 qf2 lcl tkq hx8 hx
    generalize W8.setCell ⟨qb, 2, none⟩ (.slice uu ll.length ug) = W9 at hblk9 hx9 ⊢
    have q0 : W9.cell? ⟨qb, 0, none⟩ = some (.slice ca p.code.length cc) := by simp [World.cell?, hblk9]
    have q1 : W9.cell? ⟨qb, 1, none⟩ = some (.int .i64 p.ticks) := by simp [World.cell?, hblk9]
    have q2 : W9.cell? ⟨qb, 2, none⟩ = some (.slice uu ll.length ug) := by simp [World.cell?, hblk9]
    have q3 : W9.cell? ⟨qb, 3, none⟩ = some (.slice wa p.wires.length wc') := by simp [World.cell?, hblk9]
    have qp := HR.out ll uu ug W9 hx9.below hlsp
    rw [hzl] at qp
    go_wp2_with (go_at_call 4; refine qp.mono ?_; rintro e wN ⟨rfl, bN⟩; clear qp)
    have hxN := hx9.step bN
    clear q0 q1 q2 q3 hblk9 hx9 bN
    go_roundw
    case rel => exact ⟨k + 1, by omega, by go_num, rfl, hxN⟩
    case measure => simp [intOf]; omega
  obtain rfl : k = ls.length := by omega
  have hki : decide ((ls.length : Int) < (ls.length : Int)) = false := decide_eq_false (by omega)
  have hx1 := hx
  rename World => w1
  have qn := HN.out w1 hx1.below
  have k0 := hx1.c0
  have k1 := hx1.c1
  have k2 := hx1.c2
  have k3 := hx1.c3
  go_upto_region 17 with (first
    | (go_at_call 5; refine qn.mono ?_; rintro e w2 ⟨cb, F, rfl, hT⟩; clear qn k0 k1 k2 k3; have hx2 := hx1.step (C.since hT); have qe := HE2.out w2 hx2.below)
    | (go_at_call 6; refine qe.mono ?_; rintro e w3 ⟨rfl, b3⟩; clear qe; have hx3 := hx2.step b3; have k0 := hx3.c0; have k1 := hx3.c1; have k2 := hx3.c2; have k3 := hx3.c3; have qk := HK.out w3 hx3.below)
    | (go_at_call 7; refine qk.mono ?_; rintro e w4 ⟨a, rfl, hlr, hRk, b4⟩; clear qk k0 k1 k2 k3; have hx4 := hx3.step b4))
  have hTr : TR C w1 w4 p ls (.slice ca p.code.length cc) (.slice sa p.spans.length sc) (.slice wa p.wires.length wc') (newT p) cb F a := by
    have h1 := (C.since hT).size
    have h2 := b3.size
    have hKg := KF_ge' hRk hlr
    refine ⟨C.frame hT (KTouch.of (M := []) (b3.trans (b4.mono b3.size))) (by simp), hRk.lower (by omega), fun g hg hm => ?_, newT_ok hz, (HP.out.all hx1.below).code⟩
    have h5 := (C.ge hT g hg).2
    have h6 := hKg g hm
    omega
  have HG1 : Hid (G w1) := HG.out w1 hx1.below
  have HB1 : Hid (Below w.heap.size w w1) := hx1.below
  have hs1 := hx1.size
  clear hT hRk hlr b3 b4 hx1 hx2 hx3 hx hki hkl hk HN HE2 HK HR hn0 hn1 h4'
  go_wp2
  go_loopw [16, 17, 18] (fun s16 s17 s18 wr => ∃ (i : Nat) (d : TbD) (F : List Nat) (a' : KW), i ≤ 120 ∧ s18 = .int .i64 i ∧ s16 = .int .i64 (d.now : Nat) ∧ s17 = .int .i64 (d.next : Nat) ∧ d.k.time ≤ i ∧ a'.kb = a.kb ∧ TR C w1 wr p ls (.slice ca p.code.length cc) (.slice sa p.spans.length sc) (.slice wa p.wires.length wc') d cb F a' ∧ Bx w wr (.slice ca p.code.length cc) p.ticks (.slice sa p.spans.length sc) (.slice wa p.wires.length wc')) (fun _ _ s _ => 120 - (intOf s).toNat)
  case atStart => exact ⟨0, newT p, F, a, Nat.zero_le _, rfl, rfl, rfl, (by show (0 : Int) ≤ ((0 : Nat) : Int); omega), rfl, hTr, hx4⟩
  case round =>
  clear hTr hx4
  obtain ⟨i, d, F1, a1, hi, rfl, rfl, rfl, htm, hak, hTr, hx⟩ := hrel
  by_cases hil : i < xs.length
  case neg =>
    have hil' : decide ((i : Int) < (xs.length : Int)) = false := decide_eq_false (by omega)
    have hiln : decide (i < xs.length) = false := decide_eq_false hil
    clear hTr hak
    go_wp2
    go_ret
    exact ⟨rfl, hx.below⟩
  have hii : (i : Int) < (xs.length : Int) := by omega
  by_cases hi2 : i < 120
  case neg =>
    obtain rfl : i = 120 := by omega
    rw [show ((120 : Nat) : Int) = 120 from rfl] at hii ⊢
    clear hTr hak
    go_wp2
    go_ret
    exact ⟨rfl, hx.below⟩
  have hi6 : (i : Int) < 120 := by omega
  rename World => wA
  obtain ⟨xb, xo, x, rfl, hxc, hxm⟩ := HS.out.at hx.below hil
  have hxl := HXR.out x (List.mem_of_getElem? hxm)
  have HAK : Hid (a1.kb = a.kb) := hak
  have hT0 : 0 ≤ d.k.time := hTr.ok.k.time
  clear hxm hak
  go_upto_region 22 with fail
  go_cut [80] from 76 to 79 (fun s wx => s = .bool (decide (0 < x)) ∧ wx = wA)
  case first =>
    go_wp2_with fail
    go_meet
    case rel => exact ⟨rfl, rfl⟩
  case rest =>
  obtain ⟨rfl, hwc⟩ := hcut
  rw [hwc]
  clear hwc wc
  go_step
  go_cut [9, 14, 16, 17] from 80 to 119 (fun _ s14 s16 s17 wx => s14 = .bool true ∧ ∃ (d' : TbD) (F' : List Nat) (a' : KW), s16 = .int .i64 (d'.now : Nat) ∧ s17 = .int .i64 (d'.next : Nat) ∧ d'.k.time ≤ (i : Int) + 1 ∧ a'.kb = a.kb ∧ TR C w1 wx p ls (.slice ca p.code.length cc) (.slice sa p.spans.length sc) (.slice wa p.wires.length wc') d' cb F' a' ∧ Bx w wx (.slice ca p.code.length cc) p.ticks (.slice sa p.spans.length sc) (.slice wa p.wires.length wc'))
  case first =>
    by_cases hx0 : 0 < x
    · rw [show decide (0 < x) = true from decide_eq_true hx0]
      have HAsk : Hid (∀ y : Int, Calls Tryz.prog 8 #[.pointer (some ⟨cb, 0, none⟩), .int .i64 y] wA fun e w' => e = .returned (wErr (askE ls y)) ∧ Calls Tryz.prog 6 #[wErr (askE ls y), .int .i64 (askE ls y)] w' fun e w2 => e = .returned (.bool true) ∧ ∃ F', TR C w1 w2 p ls (.slice ca p.code.length cc) (.slice sa p.spans.length sc) (.slice wa p.wires.length wc') (askT ls d y) cb F' a1 ∧ Bx w w2 (.slice ca p.code.length cc) p.ticks (.slice sa p.spans.length sc) (.slice wa p.wires.length wc')) := fun y => by
        refine (tr_ask hz y hTr).mono ?_
        rintro e w' ⟨rfl, F', hTr', tk⟩
        have hxx : Bx w w' (.slice ca p.code.length cc) p.ticks (.slice sa p.spans.length sc) (.slice wa p.wires.length wc') := Below.trans hx (tk.below (fun m hm => by have := hTr.mge m hm; omega) hx.size)
        refine ⟨rfl, (HE.out _ w' (HG.out w' hxx.below)).mono ?_⟩
        rintro e w2 ⟨rfl, b2⟩
        exact ⟨rfl, F', hTr'.all b2, hxx.step b2⟩
      have HD : Hid (∀ y : Int, (askT ls d y).k.time ≤ (i : Int) + 1 ∧ (askT ls d y).now = d.now) := fun y => ⟨by rw [(askT_k ls d y).1]; omega, (askT_k ls d y).2⟩
      clear hTr hx
      by_cases hxl2 : (ls.length : Int) < x
      · have hxl' : decide ((ls.length : Int) < x) = true := decide_eq_true hxl2
        have he : askE ls (x - 1) = 1 := by
          unfold askE
          rw [if_pos (by omega)]
        have q1 := HAsk.out (x - 1)
        have HDn : Hid ((askT ls d (x - 1)).next = d.next) := by
          show _ = _
          unfold askT
          rw [if_neg (by rw [he]; decide)]
        rw [he, show wErr 1 = .iface 64 (.int .i64 1) from rfl] at q1
        clear hxl2 he HAsk
        go_wp2_with (first
          | (go_at_call 8; refine q1.mono ?_; rintro e w5 ⟨rfl, q2⟩; clear q1)
          | (go_at_call 6; refine q2.mono ?_; rintro e w6 ⟨rfl, F', hTr', hx'⟩; clear q2))
        go_meet
        case rel => exact ⟨rfl, askT ls d (x - 1), F', a1, by rw [(HD.out _).2], by rw [HDn.out], (HD.out _).1, HAK.out, hTr', hx'⟩
      · have hxl' : decide ((ls.length : Int) < x) = false := decide_eq_false hxl2
        have he : askE ls (x - 1) = 0 := by
          unfold askE
          rw [if_neg (by omega)]
        have q1 := HAsk.out (x - 1)
        have HDn : Hid (((askT ls d (x - 1)).next : Int) = x - 1) := by
          show _ = _
          unfold askT
          rw [if_pos he]
          show ((x - 1).toNat : Int) = x - 1
          omega
        rw [he, show wErr 0 = .nilIface from rfl] at q1
        have hxl3 : x ≤ (ls.length : Int) := by omega
        clear hxl2 he HAsk
        go_wp2_with (first
          | (go_at_call 8; refine q1.mono ?_; rintro e w5 ⟨rfl, q2⟩; clear q1)
          | (go_at_call 6; refine q2.mono ?_; rintro e w6 ⟨rfl, F', hTr', hx'⟩; clear q2))
        go_meet
        case rel => exact ⟨rfl, askT ls d (x - 1), F', a1, by rw [(HD.out _).2], by rw [HDn.out], (HD.out _).1, HAK.out, hTr', hx'⟩
    · rw [show decide (0 < x) = false from decide_eq_false hx0]
      clear hx0 hxc hxl
      have k1 := hx.c1
      have m6 := hTr.R.c6
      rw [HAK.out] at m6
      obtain ⟨T, hT⟩ : ∃ T, T = d.k.time := ⟨_, rfl⟩
      rw [← hT] at m6 hT0
      have HTT : Hid (T = d.k.time) := hT
      clear hT
      go_upto_region 28 with fail
      go_cut [109] from 102 to 108 (fun s wx => s = .bool (decide (T % p.ticks = 0)) ∧ Below wA.heap.size wA wx)
      case first =>
        by_cases hm : T % p.ticks = 0
        · have hm' : (T % p.ticks == 0) = true := by simpa using hm
          have HX : Hid (decide (T % p.ticks = 0) = true) := decide_eq_true hm
          clear hm
          go_quiet (fail)
          go_wp2_with fail
          go_meet
          case rel => exact ⟨by rw [HX.out], below_dN (Below.refl _ _) _⟩
        · have hm' : (T % p.ticks == 0) = false := by simpa using hm
          have HX : Hid (decide (T % p.ticks = 0) = false) := decide_eq_false hm
          clear hm
          go_quiet (fail)
          go_wp2_with fail
          go_meet
          case rel => exact ⟨by rw [HX.out], below_dN (Below.refl _ _) _⟩
      case rest =>
      obtain ⟨rfl, hbc⟩ := hcut
      replace hTr := hTr.all hbc
      replace hx := hx.step hbc
      clear k1 m6 hbc
      generalize wc = wB at *
      go_step
      go_cut [16] from 109 to 110 (fun s wx => s = .int .i64 (countT p d : Nat) ∧ wx = wB)
      case first =>
        by_cases hm : T % p.ticks = 0
        · rw [show decide (T % p.ticks = 0) = true from decide_eq_true hm]
          have HX : Hid (countT p d = d.next) := by show _ = _; unfold countT; rw [← HTT.out, if_pos hm]
          clear hm hTr hx
          go_wp2_with fail
          go_meet
          case rel => exact ⟨by rw [HX.out], rfl⟩
        · rw [show decide (T % p.ticks = 0) = false from decide_eq_false hm]
          have HX : Hid (countT p d = d.now) := by show _ = _; unfold countT; rw [← HTT.out, if_neg hm]
          clear hm hTr hx
          go_wp2_with fail
          go_meet
          case rel => exact ⟨by rw [HX.out], rfl⟩
      case rest =>
      obtain ⟨rfl, hwc⟩ := hcut
      rw [hwc]
      clear hwc
      have hcl := countT_lt hTr.ok
      obtain ⟨lb, lo, uu, ug, ll, hlae, hlb, hlm, hlcl, hlsp⟩ := HL.out.at hcl
      obtain rfl : ll = spanT p ls d := by
        have := (spanT_mem hTr.ok).1
        rw [hlm] at this
        exact Option.some.inj this
      subst hlae
      have HNw : Hid ((tickT p ls d).now = countT p d ∧ (tickT p ls d).next = d.next ∧ (tickT p ls d).k.time ≤ (i : Int) + 1) := ⟨rfl, rfl, by rw [tickT_time]; omega⟩
      have hTd := hTr.all (Below.refl _ wB).drew
      have hxd := hx.step (Below.refl _ wB).drew
      have q1 := tr_tick HG1.out hz (by omega) hTd uu ug (hlsp.all HB1.out)
      rw [HAK.out] at q1
      have hS := (hxd.below.cell (p := ⟨lb, lo + countT p d, none⟩) hlb).trans hlcl
      have hlb1 : lb < w1.heap.size := Nat.lt_of_lt_of_le hlb HB1.out.size
      have HFge : Hid (∀ g ∈ F1, w1.heap.size ≤ g) := fun g hg => (C.ge hTr.T g hg).1
      have hlbd : lb < wB.drew.heap.size := Nat.lt_of_lt_of_le hlb hxd.below.size
      have HMge : Hid (∀ g ∈ F1 ++ a1.m, w1.heap.size ≤ g) := hTr.mge
      have HBw : Hid (∀ w', KTouch (F1 ++ a1.m) wB.drew w' → Bx w w' (.slice ca p.code.length cc) p.ticks (.slice sa p.spans.length sc) (.slice wa p.wires.length wc')) := fun w' tk => Below.trans hxd (tk.below (fun m hm => by have := hTd.mge m hm; omega) hxd.size)
      generalize tickT p ls d = d2 at q1 HNw
      generalize spanT p ls d = ll at *
      unfold evA at q1
      generalize (evT p ls d).1 = t1 at q1
      generalize (evT p ls d).2.1 = t2 at q1
      generalize (evT p ls d).2.2.1 = t3 at q1
      generalize (evT p ls d).2.2.2 = t4 at q1
      generalize countT p d = cn at *
      have hci : (cn : Int) < (ls.length : Int) := by omega
      have heq := eql_ev
      have hS0 : Hid (wB.drew.cell? ⟨lb, lo + cn, none⟩ = some (.slice uu ll.length ug)) := hS
      clear hTr hTd hx hxd hlm hlcl hlsp
      go_upto_region 30 with fail
      go_region_held3 (fun W => W.cell? ⟨lb, lo + cn, none⟩ = some (.slice uu ll.length ug))
        (first | with_reducible exact hS | go_keep)
        (first
          | (go_at_call 9; refine q1.mono ?_; rintro e w5 ⟨rfl, tk5, q2⟩; clear q1; replace hS := (World.cell?_of_block (w := wB.drew) (a := ⟨lb, lo + cn, none⟩) (tk5.block lb hlbd (fun hm => by have := HFge.out lb hm; omega))).trans hS; have hlb5 : lb < w5.heap.size := Nat.lt_of_lt_of_le hlbd tk5.size)
          | (go_at_call 10; refine (q2 _ (Below.refl _ _)).mono ?_; rintro e w6 ⟨rfl, F2, a2, hTr2, tk6, hk6⟩; clear q2; have hx6 := HBw.out w6 tk6; replace hS := (World.cell?_of_block (w := wB.drew) (w' := w6) (a := ⟨lb, lo + cn, none⟩) (tk6.block lb hlbd (fun hm => by have := HMge.out lb hm; omega))).trans hS0.out))
      all_goals (go_wp2_with fail; go_meet; exact ⟨rfl, d2, F2, a2, by rw [HNw.out.1], by rw [HNw.out.2.1], HNw.out.2.2, hk6, hTr2, hx6⟩)
  case rest =>
  obtain ⟨rfl, d2, F2, a2, rfl, rfl, htm2, hak2, hTr2, hx2⟩ := hcut
  clear hTr hx htm hxc hxl HAK hT0
  generalize wc = wM at *
  have HAK : Hid (a2.kb = a.kb) := hak2
  have hT0 : 0 ≤ d2.k.time := hTr2.ok.k.time
  have k1 := hx2.c1
  have m6 := hTr2.R.c6
  rw [HAK.out] at m6
  obtain ⟨T, hT⟩ : ∃ T, T = d2.k.time := ⟨_, rfl⟩
  rw [← hT] at m6 hT0
  have HTT : Hid (T = d2.k.time) := hT
  clear hT hak2
  go_step
  go_upto_region 32 with fail
  go_cut [128] from 121 to 127 (fun s wx => s = .bool (decide (T % p.ticks = 0)) ∧ Below wM.heap.size wM wx)
  case first =>
    by_cases hm : T % p.ticks = 0
    · have hm' : (T % p.ticks == 0) = true := by simpa using hm
      have HX : Hid (decide (T % p.ticks = 0) = true) := decide_eq_true hm
      clear hm
      go_quiet (fail)
      go_wp2_with fail
      go_meet
      case rel => exact ⟨by rw [HX.out], below_dN (Below.refl _ _) _⟩
    · have hm' : (T % p.ticks == 0) = false := by simpa using hm
      have HX : Hid (decide (T % p.ticks = 0) = false) := decide_eq_false hm
      clear hm
      go_quiet (fail)
      go_wp2_with fail
      go_meet
      case rel => exact ⟨by rw [HX.out], below_dN (Below.refl _ _) _⟩
  case rest =>
  obtain ⟨rfl, hbc⟩ := hcut
  replace hTr2 := hTr2.all hbc
  replace hx2 := hx2.step hbc
  clear k1 m6 hbc hT0
  generalize wc = wN at *
  go_step
  go_cut [19] from 128 to 129 (fun s wx => s = .int .i64 (countT p d2 : Nat) ∧ wx = wN)
  case first =>
    by_cases hm : T % p.ticks = 0
    · rw [show decide (T % p.ticks = 0) = true from decide_eq_true hm]
      have HX : Hid (countT p d2 = d2.next) := by show _ = _; unfold countT; rw [← HTT.out, if_pos hm]
      clear hm hTr2 hx2
      go_wp2_with fail
      go_meet
      case rel => exact ⟨by rw [HX.out], rfl⟩
    · rw [show decide (T % p.ticks = 0) = false from decide_eq_false hm]
      have HX : Hid (countT p d2 = d2.now) := by show _ = _; unfold countT; rw [← HTT.out, if_neg hm]
      clear hm hTr2 hx2
      go_wp2_with fail
      go_meet
      case rel => exact ⟨by rw [HX.out], rfl⟩
  case rest =>
  obtain ⟨rfl, hwc⟩ := hcut
  rw [hwc]
  clear hwc wc
  go_step
  have hflt := hTr2.flt
  have hsb : wN.heap.size ∉ F2 ++ KF a2 := fun hm => by have := hflt _ hm; omega
  have hMw : w1.heap.size ≤ wN.heap.size := (C.since hTr2.T).size
  go_upto_region 36 with fail
  have bMN : Below wN.heap.size wN (wN.alloc (.cells #[.int .i64 0, .int .i64 0, .int .i64 0, .int .i64 0, .int .i64 0, .int .i64 0, .int .i64 0, .bool false] 49)) := (Below.refl _ _).alloc (Nat.le_refl _) _
  have hst : StB (wN.alloc (.cells #[.int .i64 0, .int .i64 0, .int .i64 0, .int .i64 0, .int .i64 0, .int .i64 0, .int .i64 0, .bool false] 49)) wN.heap.size stNew := World.alloc_heap_new wN _
  replace hTr2 := hTr2.all bMN
  replace hx2 := hx2.step bMN
  clear bMN hflt
  generalize (wN.alloc (.cells #[.int .i64 0, .int .i64 0, .int .i64 0, .int .i64 0, .int .i64 0, .int .i64 0, .int .i64 0, .bool false] 49)) = wO at hst hTr2 hx2 ⊢
  generalize wN.heap.size = sb at hst hsb hMw ⊢
  have k0 := hx2.c0
  have HRl : Hid (d2.k.rooms.length = p.code.length) := hTr2.ok.k.rl
  go_cut [138] from 130 to 137 (fun s wx => s = .bool (noRoom d2.k r) ∧ wx = wO)
  case first =>
    by_cases h0 : r < 0
    · have HX : Hid (noRoom d2.k r = true) := by show _ = _; unfold noRoom; simp [h0]
      have h0' : decide (r < 0) = true := decide_eq_true h0
      go_wp2_with fail
      go_meet
      case rel => exact ⟨by rw [HX.out], rfl⟩
    · have h0' : decide (r < 0) = false := decide_eq_false h0
      have HX : Hid (noRoom d2.k r = decide ((p.code.length : Int) ≤ r)) := by show _ = _; unfold noRoom; rw [HRl.out]; simp [h0']
      go_wp2_with fail
      go_meet
      case rel => exact ⟨by rw [HX.out], rfl⟩
  case rest =>
  obtain ⟨rfl, hwc⟩ := hcut
  rw [hwc]
  clear hwc wc
  go_step
  go_cut [9] from 138 to 145 (fun s9 wx => s9 = .int .i64 (errB (noRoom d2.k r)) ∧ StB wx sb (roomK d2.k r) ∧ KTouch [sb] wO wx)
  case first =>
    cases hno : noRoom d2.k r with
    | true =>
      have HX : Hid (roomK d2.k r = stNew) := by show _ = _; unfold roomK; rw [hno, if_pos rfl]
      have HNo : Hid (noRoom d2.k r = true) := hno
      have HST : Hid (StB wO sb stNew) := hst
      clear hst hTr2 hx2 k0 hno
      go_wp2_with fail
      go_meet
      case rel => exact ⟨by rw [HNo.out]; rfl, by rw [HX.out]; exact HST.out, KTouch.refl _ _⟩
    | false =>
      have hrange : 0 ≤ r ∧ r < p.code.length := by
        unfold noRoom at hno
        rw [HRl.out] at hno
        simp only [Bool.or_eq_false_iff, decide_eq_false_iff_not] at hno
        omega
      obtain ⟨rn, rfl⟩ : ∃ n : Nat, r = n := ⟨r.toNat, by omega⟩
      have hrl : rn < d2.k.rooms.length := by rw [HRl.out]; omega
      have hri : (rn : Int) < (d2.k.rooms.length : Int) := by omega
      obtain ⟨s, hs⟩ : ∃ s, d2.k.rooms[rn]? = some s := ⟨_, List.getElem?_eq_getElem hrl⟩
      have HX : Hid (roomK d2.k (rn : Int) = s) := by show _ = _; unfold roomK; rw [hno, if_neg (by decide), Int.toNat_natCast]; simp [List.getD, hs]
      have hth := hst.there 0
      have k4 := hTr2.R.c4
      rw [HAK.out] at k4
      obtain ⟨s0, s1, s2, s3, s4, s5, s6, s7⟩ := hTr2.R.rooms rn s hs
      have HST : Hid (StB wO sb stNew) := hst
      have HNo : Hid (noRoom d2.k (rn : Int) = false) := hno
      clear hs hst hTr2 hx2 k0 hno
      go_wp2_with (refine wpList_store_mid rfl 49 _ _ rfl sb 0 #[.int .i64 s.p, .int .i64 (s.c 0), .int .i64 (s.c 1), .int .i64 (s.c 2), .int .i64 (s.c 3), .int .i64 (s.c 4), .int .i64 (s.c 5), .bool s.f] rfl rfl hth (by kernel_rfl) (by simp [Value.oneCell']) ?_)
      go_meet
      case rel => exact ⟨by rw [HNo.out]; rfl, by rw [HX.out]; exact HST.out.set s, setSt_touch wO (by simp) 0 s⟩
  case rest =>
  obtain ⟨rfl, hst', tk⟩ := hcut
  generalize wc = wP at *
  replace hTr2 := hTr2.set tk hsb hMw
  replace hx2 : Bx w wP (.slice ca p.code.length cc) p.ticks (.slice sa p.spans.length sc) (.slice wa p.wires.length wc') := Below.trans hx2 (tk.below (B := w.heap.size + 1) (by simp; omega) hx2.size)
  clear hst tk k0
  have hnq := eql_st
  obtain ⟨s, hs⟩ : ∃ s, s = roomK d2.k r := ⟨_, rfl⟩
  obtain ⟨z, hzz⟩ : ∃ z, z = errB (noRoom d2.k r) := ⟨_, rfl⟩
  obtain ⟨ve, hve⟩ : ∃ ve, ve = wErr z := ⟨_, rfl⟩
  obtain ⟨cn, hcn⟩ : ∃ c, c = countT p d2 := ⟨_, rfl⟩
  have HSt : Hid (Calls Tryz.prog 11 #[.pointer (some ⟨cb, 0, none⟩), .int .i64 r] wP fun e w5 => e = .returned (.tuple #[.agg #[.int .i64 s.p, .int .i64 (s.c 0), .int .i64 (s.c 1), .int .i64 (s.c 2), .int .i64 (s.c 3), .int .i64 (s.c 4), .int .i64 (s.c 5), .bool s.f], ve]) ∧
      Calls Tryz.prog 6 #[ve, .int .i64 z] (w5.alloc (.cells #[.int .i64 s.p, .int .i64 (s.c 0), .int .i64 (s.c 1), .int .i64 (s.c 2), .int .i64 (s.c 3), .int .i64 (s.c 4), .int .i64 (s.c 5), .bool s.f] 49)) fun r' w6 => r' = .returned (.bool true) ∧ (StB w6 w5.heap.size s ∧ StB w6 sb s) ∧
      Calls Tryz.prog 12 #[.pointer (some ⟨cb, 0, none⟩)] w6 fun e w7 => e = .returned (.int .i64 (cn : Nat)) ∧ Below wP.heap.size wP w7) := by
    refine (CS r hTr2.T hTr2.ok hz).mono ?_
    rintro e w5 ⟨rfl, b5⟩
    refine ⟨by rw [hve, hzz, hs]; rfl, ?_⟩
    have b5a : Below wP.heap.size wP (w5.alloc (.cells #[.int .i64 s.p, .int .i64 (s.c 0), .int .i64 (s.c 1), .int .i64 (s.c 2), .int .i64 (s.c 3), .int .i64 (s.c 4), .int .i64 (s.c 5), .bool s.f] 49)) := b5.alloc b5.size _
    have hq := HE.out z _ (HG.out _ (hx2.below.trans (b5a.mono hx2.below.size)))
    rw [← hve] at hq
    refine hq.mono ?_
    rintro r' w6 ⟨rfl, b6⟩
    have b6a := b5a.trans (b6.mono b5a.size)
    refine ⟨rfl, ⟨(b6.block _ (by simp)).trans (World.alloc_heap_new w5 _), ?_⟩, ?_⟩
    · rw [hs]
      have hlt := (Array.getElem?_eq_some_iff.1 hst').1
      exact (b6a.block sb hlt).trans hst'
    · refine (C.now (C.frame hTr2.T (KTouch.of (M := []) b6a) (by simp)) hz hTr2.ok).mono ?_
      rintro e w7 ⟨rfl, b7⟩
      exact ⟨by rw [hcn], b6a.trans (b7.mono b6a.size)⟩
  rw [← hzz, ← hcn]
  clear hs hzz hve hst' hcn
  have HFin : Hid (∀ w', Below wP.heap.size wP w' → TR C w1 w' p ls (.slice ca p.code.length cc) (.slice sa p.spans.length sc) (.slice wa p.wires.length wc') d2 cb F2 a2 ∧ Bx w w' (.slice ca p.code.length cc) p.ticks (.slice sa p.spans.length sc) (.slice wa p.wires.length wc')) := fun w' hb => ⟨hTr2.all hb, hx2.step hb⟩
  clear hTr2 hx2 HRl hsb hMw
  go_step
  go_wp2_with (first
    | (go_at_call 11; refine HSt.out.mono ?_; rintro e w5 ⟨rfl, q2⟩; clear HSt)
    | (go_at_call 6; refine q2.mono ?_; rintro r' w6 ⟨rfl, ⟨hb1, hb2⟩, q3⟩; clear q2; obtain ⟨e0, e1, e2, e3, e4, e5, e6, e7⟩ := hb1.cs; obtain ⟨f0, f1, f2, f3, f4, f5, f6, f7⟩ := hb2.cs; simp only [Nat.zero_add] at e1 e2 e3 e4 e5 e6 e7 f1 f2 f3 f4 f5 f6 f7)
    | (go_at_call 12; refine q3.mono ?_; rintro e w7 ⟨rfl, b7⟩; clear q3))
  go_roundw
  case rel => exact ⟨i + 1, d2, F2, a2, by omega, by go_num, rfl, rfl, (by push_cast; omega), HAK.out, (HFin.out _ b7).1, (HFin.out _ b7).2⟩
  case measure => simp [intOf]; omega
theorem tplays_of {G : World → Prop} (C : TabC G) (CS : TabState C) (hE : ∀ (e : Int) (W : World), G W → Calls Tryz.prog 6 #[wErr e, .int .i64 e] W fun r w' => r = .returned (.bool true) ∧ Below W.heap.size W w')
    (hR : ∀ (p : PD) (vc vs vw : Value) (W : World), Pln W vc vs vw p → Calls Tryz.prog 4 #[plV vc p.ticks vs vw] W fun e w' => e = .returned (.int .i64 (plchk p)) ∧ Below W.heap.size W w')
    (p : PD) (vc vs vw lv sv : Value) (ls : List (List S3)) (xs : List Int) (r : Int) (w : World) (hG : G w) (hP : Pln w vc vs vw p) (hL : Spl w lv ls) (hS : Stp w sv xs) (hxr : ∀ x ∈ xs, x ≤ 9223372036854775807) :
    Calls Tryz.prog 3 #[plV vc p.ticks vs vw, lv, sv, .int .i64 r] w fun e w' => e = .returned (.bool true) ∧ Below w.heap.size w w' := by
  by_cases hz : tabE p ls = 0
  · exact tplays_ok C CS hE hR p vc vs vw lv sv ls xs r w hG hP hL hS hxr hz
  · exact tplays_no C hE hR p vc vs vw lv sv ls xs r w hG hP hL hS hz
end Go.Proofs.YtfconbblnmbnpagGreatDoor
