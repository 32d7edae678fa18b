/-
  KFrame, TPlays0: joined into one text.
-/
import Derived.Test.YteejpehfmnjgfagGreatDoorKRefTick
import Derived.Test.YteejpehfmnjgfagGreatDoorKRefNew
import Derived.Test.YteejpehfmnjgfagGreatDoorJa4
namespace Go.Proofs.YteejpehfmnjgfagGreatDoor
open Go.RowKit

/-- The blocks of the document's kernel. -/
def KF (a : KW) : List Nat := a.kb :: a.rb :: a.lr :: (a.bs ++ a.us.filterMap Value.ownBlock)
theorem KF.m {a : KW} : ∀ g ∈ a.m, g ∈ KF a := fun g hg => by
  unfold KW.m at hg
  unfold KF
  simp only [List.mem_cons, List.mem_append] at hg ⊢
  rcases hg with h | h | h
  · exact Or.inl h
  · exact Or.inr (Or.inl h)
  · exact Or.inr (Or.inr (Or.inr (Or.inl h)))
theorem KF.us {a : KW} {us : List Value} {n : Nat} (h : ∀ u ∈ us, ∀ g, u.ownBlock = some g → OldU a g ∨ n ≤ g) : ∀ g ∈ KF { a with us := us }, g ∈ KF a ∨ n ≤ g := fun g hg => by
  unfold KF at hg ⊢
  simp only [List.mem_cons, List.mem_append, List.mem_filterMap] at hg ⊢
  rcases hg with h1 | h1 | h1 | h1 | ⟨u, h1, h2⟩
  · exact Or.inl (Or.inl h1)
  · exact Or.inl (Or.inr (Or.inl h1))
  · exact Or.inl (Or.inr (Or.inr (Or.inl h1)))
  · exact Or.inl (Or.inr (Or.inr (Or.inr (Or.inl h1))))
  · rcases h u h1 g h2 with ⟨u0, h3, h4⟩ | h3
    · exact Or.inl (Or.inr (Or.inr (Or.inr (Or.inr ⟨u0, h3, h4⟩))))
    · exact Or.inr h3
theorem RK.flt {w : World} {base : Nat} {p : PD} {vc vs vw : Value} {k : KD} {a : KW} (h : RK w base p vc vs vw k a) : ∀ g ∈ KF a, g < w.heap.size := fun g hg => by
  have hle := h.le
  unfold KF at hg
  simp only [List.mem_cons, List.mem_append, List.mem_filterMap] at hg
  rcases hg with h1 | h1 | h1 | h1 | ⟨u, h1, h2⟩
  · have := h.lt.1; omega
  · have := h.lt.2.1; omega
  · have := h.lt.2.2.1; omega
  · have := h.lt.2.2.2 g h1; omega
  · exact (h.rows u h1 g h2).2
/-- What is written elsewhere leaves it as it is. -/
theorem RK.frame {w w' : World} {base : Nat} {p : PD} {vc vs vw : Value} {k : KD} {a : KW} (h : RK w base p vc vs vw k a) {M : List Nat} (ht : KTouch M w w') (hM : ∀ m ∈ M, m ∉ KF a) : RK w' base p vc vs vw k a := by
  have hin : ∀ g, g ∈ KF a → w'.heap[g]? = w.heap[g]? := fun g hg => ht.block g (h.flt g hg) (fun hm => hM g hm hg)
  have m1 : a.kb ∈ KF a := by simp [KF]
  have m2 : a.rb ∈ KF a := by simp [KF]
  have m3 : a.lr ∈ KF a := by simp [KF]
  have m4 : ∀ b ∈ a.bs, b ∈ KF a := fun b hb => by simp [KF, hb]
  have m5 : ∀ u ∈ a.us, ∀ g, u.ownBlock = some g → g ∈ KF a := fun u hu g hg => by
    unfold KF
    simp only [List.mem_cons, List.mem_append, List.mem_filterMap]
    exact Or.inr (Or.inr (Or.inr (Or.inr ⟨u, hu, hg⟩)))
  have hc := fun o => World.cell?_of_block (w := w) (w' := w') (a := ⟨a.kb, o, none⟩) (hin _ m1)
  have hf := fun o => World.frozen?_of_block (w := w) (w' := w') (a := ⟨a.kb, o, none⟩) (hin _ m1)
  have hrf := fun o => World.frozen?_of_block (w := w) (w' := w') (a := ⟨a.rb, o, none⟩) (hin _ m2)
  have hlr := fun o => World.cell?_of_block (w := w) (w' := w') (a := ⟨a.lr, o, none⟩) (hin _ m3)
  refine ⟨(hc 0).trans h.c0, (hc 1).trans h.c1, (hc 2).trans h.c2, (hc 3).trans h.c3, (hc 4).trans h.c4, (hc 5).trans h.c5, (hc 6).trans h.c6, (hf 6).trans h.f6, fun i s hs => (h.rooms i s hs).block (hin _ m2), fun o => (hrf o).trans (h.rf o), h.lv, fun i b hi => (hlr i).trans (h.ptr i b hi), h.bl, h.ul, fun i l b u h1 h2 h3 => (h.line i l b u h1 h2 h3).touch ht (fun hm => ?_) (fun g hg hm => ?_), h.ge, h.lt, Nat.le_trans h.le ht.size, h.apart, h.two, h.ft.block (fun b hb => hin b (m4 b hb))⟩
  · exact hM b hm (m4 b (List.mem_of_getElem? h2))
  · exact hM g hm (m5 u (List.mem_of_getElem? h3) g hg)
theorem RK.lower {w : World} {base base' : Nat} {p : PD} {vc vs vw : Value} {k : KD} {a : KW} (h : RK w base p vc vs vw k a) (hb : base' ≤ base) : RK w base' p vc vs vw k a :=
  ⟨h.c0, h.c1, h.c2, h.c3, h.c4, h.c5, h.c6, h.f6, h.rooms, h.rf, h.lv, h.ptr, h.bl, h.ul, h.line, ⟨Nat.le_trans hb h.ge.1, Nat.le_trans hb h.ge.2.1, fun b hm => Nat.le_trans hb (h.ge.2.2 b hm)⟩, h.lt, h.le, h.apart, h.two, h.ft⟩
end Go.Proofs.YteejpehfmnjgfagGreatDoor
namespace Go.Proofs.YteejpehfmnjgfagGreatDoor
open Go.RowKit

theorem RK.withS {w : World} {base : Nat} {p : PD} {vc vs vw : Value} {k : KD} {a : KW} (h : RK w base p vc vs vw k a) (sp : List S3) : RK w base (Go.Proofs.YteejpehfmnjgfagGreatDoor.withS p sp) vc vs vw k a :=
  ⟨h.c0, h.c1, h.c2, h.c3, h.c4, h.c5, h.c6, h.f6, h.rooms, h.rf, h.lv, h.ptr, h.bl, h.ul, h.line, h.ge, h.lt, h.le, h.apart, h.two, h.ft⟩
theorem RK.withS' {w : World} {base : Nat} {p : PD} {sp : List S3} {vc vs vw : Value} {k : KD} {a : KW} (h : RK w base (Go.Proofs.YteejpehfmnjgfagGreatDoor.withS p sp) vc vs vw k a) : RK w base p vc vs vw k a :=
  ⟨h.c0, h.c1, h.c2, h.c3, h.c4, h.c5, h.c6, h.f6, h.rooms, h.rf, h.lv, h.ptr, h.bl, h.ul, h.line, h.ge, h.lt, h.le, h.apart, h.two, h.ft⟩
/-- Neither has what the other one has. -/
structure TR {G : World → Prop} (C : TabC G) (w0 wr : World) (p : PD) (ls : List (List S3)) (vc vs vw : Value) (d : TbD) (cb : Nat) (F : List Nat) (a : KW) : Prop where
  T : C.K w0 wr p ls d cb F
  R : RK wr w0.heap.size p vc vs vw d.k a
  ap : ∀ g ∈ F, g ∉ KF a
  ok : TOk p ls d
  code : Cds w0 vc p.code
section
variable {G : World → Prop} {C : TabC G} {w0 wr w' W : World} {p : PD} {ls : List (List S3)} {vc vs vw : Value} {d : TbD} {cb : Nat} {F : List Nat} {a : KW}
theorem TR.all (h : TR C w0 wr p ls vc vs vw d cb F a) (hb : Below wr.heap.size wr w') : TR C w0 w' p ls vc vs vw d cb F a :=
  ⟨C.frame h.T (KTouch.of (M := []) hb) (by simp), h.R.all hb, h.ap, h.ok, h.code⟩
theorem TR.flt (h : TR C w0 wr p ls vc vs vw d cb F a) : ∀ g ∈ F ++ KF a, g < wr.heap.size := fun g hg => by
  rcases List.mem_append.1 hg with h1 | h1
  · exact (C.ge h.T g h1).2
  · exact h.R.flt g h1
theorem TR.mge (h : TR C w0 wr p ls vc vs vw d cb F a) : ∀ g ∈ F ++ a.m, w0.heap.size ≤ g := fun g hg => by
  rcases List.mem_append.1 hg with h1 | h1
  · exact (C.ge h.T g h1).1
  · exact h.R.mge g h1
/-- A block of the caller's own is written. -/
theorem TR.set (h : TR C w0 wr p ls vc vs vw d cb F a) {b : Nat} (ht : KTouch [b] wr w') (hb : b ∉ F ++ KF a) (hw : w0.heap.size ≤ b) : TR C w0 w' p ls vc vs vw d cb F a := by
  rw [List.mem_append] at hb
  refine ⟨C.frame h.T ht (fun m hm => ?_), h.R.frame ht (fun m hm => ?_), h.ap, h.ok, h.code⟩
  · rw [List.mem_singleton] at hm
    subst hm
    exact ⟨fun e => hb (Or.inl e), hw⟩
  · rw [List.mem_singleton] at hm
    subst hm
    exact fun e => hb (Or.inr e)
/-- Tables are asked. -/
theorem tr_ask (hz : tabE p ls = 0) (i : Int) (h : TR C w0 W p ls vc vs vw d cb F a) :
    Calls Tryz.prog 8 #[.pointer (some ⟨cb, 0, none⟩), .int .i64 i] W fun e w' => e = .returned (wErr (askE ls i)) ∧ ∃ F', TR C w0 w' p ls vc vs vw (askT ls d i) cb F' a ∧ KTouch (F ++ a.m) W w' := by
  refine (C.ask i h.T hz h.ok).mono ?_
  rintro e w' ⟨rfl, F', hT, tk, hF⟩
  refine ⟨rfl, F', ⟨hT, by rw [(askT_k ls d i).1]; exact h.R.frame tk (fun m hm => h.ap m hm), fun g hg hm => ?_, askT_ok h.ok i, h.code⟩, tk.mono (fun m hm => List.mem_append.2 (Or.inl hm))⟩
  rcases hF g hg with h1 | h1
  · exact h.ap g h1 hm
  · have := h.R.flt g hm
    omega
/-- A tick of both. -/
theorem tr_tick (hG : G w0) (hz : tabE p ls = 0) (ht : d.k.time < 100000000) (h : TR C w0 W p ls vc vs vw d cb F a) (ua : Option Addr) (uc : Nat) (hsp : Sps w0 (.slice ua (spanT p ls d).length uc) (spanT p ls d)) :
    Calls Tryz.prog 9 #[.pointer (some ⟨cb, 0, none⟩)] W fun e w2 => e = .returned (evA (evT p ls d)) ∧ KTouch F W w2 ∧
      ∀ w3, Below w2.heap.size w2 w3 → Calls Tryz.prog 10 #[.pointer (some ⟨a.kb, 0, none⟩), .slice ua (spanT p ls d).length uc] w3 fun e w' => e = .returned (evA (evT p ls d)) ∧ ∃ F' a', TR C w0 w' p ls vc vs vw (tickT p ls d) cb F' a' ∧ KTouch (F ++ a.m) W w' ∧ a'.kb = a.kb := by
  have hp := spanT_right hz h.ok
  have hfz := fchk_zero (plchk_zero hp).2.2.1
  refine (C.tick hG h.T hz h.ok ht).mono ?_
  rintro e w2 ⟨rfl, F', hT, tk, hF⟩
  refine ⟨rfl, tk, fun w3 b3 => ?_⟩
  have hT3 := C.frame hT (KTouch.of (M := []) b3) (by simp)
  have hR3 := ((h.R.frame tk (fun m hm => h.ap m hm)).all b3).withS (spanT p ls d)
  have hs2 := tk.size
  have hs3 := b3.size
  refine (tickby_any (withS p (spanT p ls d)) vc vs vw (spanT p ls d) ua uc d.k a w0.heap.size w3 hp (h.ok.k.withS _) ht hR3 w0 rfl (C.since hT3) h.code hsp hfz.2.2.1 (fun t => who_room hp t)).mono ?_
  rintro e w' ⟨rfl, ⟨us, hR', hus⟩, tkr⟩
  have hFlt : ∀ g ∈ F', g ∉ KF a := fun g hg hm => by
    rcases hF g hg with h1 | h1
    · exact h.ap g h1 hm
    · have := h.R.flt g hm
      omega
  have hnew := KF.us hus
  refine ⟨rfl, F', { a with us := us }, ⟨C.frame hT3 tkr (fun m hm => ⟨fun hmf => hFlt m hmf (KF.m m hm), h.R.mge m hm⟩), RK.withS' (sp := spanT p ls d) hR', fun g hg hm => ?_, tickT_ok hz h.ok, h.code⟩, ((tk.trans (KTouch.of b3)).mono (fun m hm => List.mem_append.2 (Or.inl hm))).trans (tkr.mono (fun m hm => List.mem_append.2 (Or.inr hm))), rfl⟩
  rcases hnew g hm with h1 | h1
  · exact hFlt g hg h1
  · have := (C.ge hT3 g hg).2
    omega
end
end Go.Proofs.YteejpehfmnjgfagGreatDoor
