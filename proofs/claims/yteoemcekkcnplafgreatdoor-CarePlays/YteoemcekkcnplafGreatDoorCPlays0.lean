/-
  Both cares side by side: package care's and the document's, of one plan and its rules.
-/
import Derived.Test.YteoemcekkcnplafGreatDoorRCare
import Derived.Test.YteoemcekkcnplafGreatDoorJf3
namespace Go.Proofs.YteoemcekkcnplafGreatDoor
open Go.RowKit

/-- What the laws of care ask of Poke. -/
def CarPoke {G : World → Prop} (C : CarC G) : Prop := ∀ {w0 W p what most d cb F} (r c n : Int), C.K w0 W p what most d cb F → COk p what most d → carE p what most = 0 → Calls Tryz.prog 8 #[.pointer (some ⟨cb, 0, none⟩), .int .i64 r, .int .i64 c, .int .i64 n] W fun e w' => e = .returned (wErr (pokeN d.k r c n)) ∧ ∃ F', C.K w0 w' p what most ⟨pokeK d.k r c n, d.ts⟩ cb F' ∧ KTouch F W w' ∧ ∀ g ∈ F', g ∈ F ∨ W.heap.size ≤ g
/-- Both are the same, and neither has what the other one has. -/
structure TwoC {G : World → Prop} (C : CarC G) (w0 wr : World) (p : PD) (vc vs vw wv : Value) (what : List Int) (most : Int) (d : CD) (cb : Nat) (F : List Nat) (a : KW) (mb tb tc : Nat) : Prop where
  K : C.K w0 wr p what most d cb F
  R : RC wr w0.heap.size p vc vs vw wv most d a mb tb tc
  ap : ∀ g ∈ F, g ∉ mb :: tb :: KF a
  ok : COk p what most d
  pln : Pln w0 vc vs vw p
  wht : Stp w0 wv what
/-- What came of a call on both. -/
structure WentC {G : World → Prop} (C : CarC G) (w0 W w' : World) (p : PD) (vc vs vw wv : Value) (what : List Int) (most : Int) (d' : CD) (cb : Nat) (F F' : List Nat) (a a' : KW) (mb tb tc : Nat) : Prop where
  two : TwoC C w0 w' p vc vs vw wv what most d' cb F' a' mb tb tc
  touch : KTouch (F ++ tb :: a.m) W w'
  new : ∀ g ∈ F' ++ mb :: tb :: KF a', g ∈ F ++ mb :: tb :: KF a ∨ W.heap.size ≤ g
  kb : a'.kb = a.kb
section
variable {G : World → Prop} {C : CarC G} {w0 wr w' W : World} {p : PD} {vc vs vw wv : Value} {what : List Int} {most : Int} {d d' : CD} {cb : Nat} {F F' : List Nat} {a a' : KW} {mb tb tc : Nat}
theorem TwoC.flt (h : TwoC C w0 wr p vc vs vw wv what most d cb F a mb tb tc) : ∀ g ∈ F ++ mb :: tb :: KF a, g < wr.heap.size := fun g hg => by
  rcases List.mem_append.1 hg with h1 | h1
  · exact (C.ge h.K g h1).2
  · exact h.R.flt g h1
theorem TwoC.all (h : TwoC C w0 wr p vc vs vw wv what most d cb F a mb tb tc) (hb : Below wr.heap.size wr w') : TwoC C w0 w' p vc vs vw wv what most d cb F a mb tb tc :=
  ⟨C.frame h.K (KTouch.of (M := []) hb) (by simp), h.R.all hb, h.ap, h.ok, h.pln, h.wht⟩
/-- A block of the caller's own is written. -/
theorem TwoC.set (h : TwoC C w0 wr p vc vs vw wv what most d cb F a mb tb tc) {b : Nat} (ht : KTouch [b] wr w') (hb : b ∉ F ++ mb :: tb :: KF a) (hw : w0.heap.size ≤ b) : TwoC C w0 w' p vc vs vw wv what most d cb F a mb tb tc := by
  rw [List.mem_append, List.mem_cons, List.mem_cons] at hb
  refine ⟨C.frame h.K ht (fun m hm => ?_), h.R.frame ht (fun m hm => ?_), h.ap, h.ok, h.pln, h.wht⟩
  · rw [List.mem_singleton] at hm
    subst hm
    exact ⟨fun e => hb (Or.inl e), hw⟩
  · rw [List.mem_singleton] at hm
    subst hm
    exact ⟨fun e => hb (Or.inr (Or.inl e)), fun e => hb (Or.inr (Or.inr (Or.inl e))), fun e => hb (Or.inr (Or.inr (Or.inr e)))⟩
theorem own_mc {b : Nat} (h : b ∈ F ++ tb :: a.m) : b ∈ F ++ mb :: tb :: KF a := by
  rw [List.mem_append, List.mem_cons] at h
  rw [List.mem_append, List.mem_cons, List.mem_cons]
  rcases h with h | h | h
  · exact Or.inl h
  · exact Or.inr (Or.inr (Or.inl h))
  · exact Or.inr (Or.inr (Or.inr (KF.m b h)))
theorem TwoC.mge (h : TwoC C w0 wr p vc vs vw wv what most d cb F a mb tb tc) : ∀ g ∈ F ++ tb :: a.m, w0.heap.size ≤ g := fun g hg => by
  rcases List.mem_append.1 hg with h1 | h1
  · exact (C.ge h.K g h1).1
  · exact h.R.mge g h1
theorem WentC.keep (h : WentC C w0 W w' p vc vs vw wv what most d' cb F F' a a' mb tb tc) {b : Nat} (hb : b < W.heap.size) (hn : b ∉ F ++ mb :: tb :: KF a) : w'.heap[b]? = W.heap[b]? ∧ b ∉ F' ++ mb :: tb :: KF a' := by
  refine ⟨h.touch.block b hb (fun hm => hn (own_mc hm)), fun hm => ?_⟩
  rcases h.new b hm with h1 | h1
  · exact hn h1
  · omega
theorem TwoC.apart (h : TwoC C w0 wr p vc vs vw wv what most d cb F a mb tb tc) : ∀ m ∈ F, m ≠ mb ∧ m ≠ tb ∧ m ∉ KF a := fun m hm => by
  have := h.ap m hm
  rw [List.mem_cons, List.mem_cons] at this
  exact ⟨fun e => this (Or.inl e), fun e => this (Or.inr (Or.inl e)), fun e => this (Or.inr (Or.inr e))⟩
/-- A poke of both, package care's first. -/
theorem two_cpoke (CP : CarPoke C) (hc : carE p what most = 0) (r c n : Int) (h : TwoC C w0 W p vc vs vw wv what most d cb F a mb tb tc) :
    Calls Tryz.prog 8 #[.pointer (some ⟨cb, 0, none⟩), .int .i64 r, .int .i64 c, .int .i64 n] W fun e w2 => e = .returned (wErr (pokeN d.k r c n)) ∧ KTouch F W w2 ∧
      ∀ w3, Below w2.heap.size w2 w3 → Calls Tryz.prog 9 #[.pointer (some ⟨a.kb, 0, none⟩), .int .i64 r, .int .i64 c, .int .i64 n] w3 fun e w' => e = .returned (.int .i64 (pokeN d.k r c n)) ∧ ∃ F', WentC C w0 W w' p vc vs vw wv what most ⟨pokeK d.k r c n, d.ts⟩ cb F F' a a mb tb tc := by
  refine (CP r c n h.K h.ok hc).mono ?_
  rintro e w2 ⟨rfl, F', hK', tk, hF'⟩
  refine ⟨rfl, tk, fun w3 b3 => ?_⟩
  have hR2 := (h.R.frame tk h.apart).all b3
  have hK3 := C.frame hK' (KTouch.of (M := []) b3) (by simp)
  have tk3 : KTouch F W w3 := tk.trans (KTouch.of b3)
  refine (refpoke_any p vc vs vw d.k a w0.heap.size r c n w3 hR2.k).mono ?_
  rintro e w' ⟨rfl, hk', tkr⟩
  have hF2 : ∀ g ∈ F', g ∉ mb :: tb :: KF a := fun g hg hm => by
    rcases hF' g hg with h1 | h1
    · exact h.ap g h1 hm
    · have := h.R.flt g hm
      omega
  have hmne : ∀ m ∈ a.m, m ≠ mb ∧ m ≠ tb := fun m hm => ⟨fun e => hR2.ap.1 (by rw [← e]; exact KF.m m hm), fun e => hR2.ap.2.1 (by rw [← e]; exact KF.m m hm)⟩
  refine ⟨rfl, F', ⟨C.frame hK3 tkr (fun m hm => ⟨fun hmf => hF2 m hmf (by rw [List.mem_cons, List.mem_cons]; exact Or.inr (Or.inr (KF.m m hm))), h.R.k.mge m hm⟩), hR2.kern tkr hmne hk' rfl ⟨hR2.ap.1, hR2.ap.2.1⟩, hF2, ⟨poke_ok h.ok.k r c n, h.ok.tl, h.ok.ts⟩, h.pln, h.wht⟩, (tk3.mono (fun m hm => List.mem_append.2 (Or.inl hm))).trans (tkr.mono (fun m hm => List.mem_append.2 (Or.inr (List.mem_cons.2 (Or.inr hm))))), fun g hg => ?_, rfl⟩
  rcases List.mem_append.1 hg with h1 | h1
  · rcases hF' g h1 with h2 | h2
    · exact Or.inl (List.mem_append.2 (Or.inl h2))
    · exact Or.inr h2
  · exact Or.inl (List.mem_append.2 (Or.inr h1))
/-- A tick of both. -/
theorem two_ctick (hG : G w0) (hc : carE p what most = 0) (ht : d.k.time < 1000000) (h : TwoC C w0 W p vc vs vw wv what most d cb F a mb tb tc) :
    Calls Tryz.prog 10 #[.pointer (some ⟨cb, 0, none⟩)] W fun e w2 => e = .returned (evA (evC p what most d)) ∧
      Calls Tryz.prog 11 #[.pointer (some ⟨mb, 0, none⟩)] w2 fun e w' => e = .returned (evA (evC p what most d)) ∧ ∃ F' a', WentC C w0 W w' p vc vs vw wv what most (tickC p what most d) cb F F' a a' mb tb tc := by
  refine (C.tick hG h.K hc h.ok ht).mono ?_
  rintro e w2 ⟨rfl, F', hK', tk, hF'⟩
  refine ⟨rfl, ?_⟩
  have hR2 := h.R.frame tk h.apart
  have hB2 : Below w0.heap.size w0 w2 := C.since hK'
  obtain ⟨sa, sc, rfl⟩ := h.pln.spans.form
  refine (rcare_tick p vc vw wv sa sc what most d a mb tb tc w0.heap.size w2 hc h.ok ht hR2 w0 rfl hB2 h.pln h.wht).mono ?_
  rintro e w' ⟨rfl, ⟨us, hR', hus⟩, tkr⟩
  have hmge := hR2.mge
  have hF2 : ∀ g ∈ F', g ∉ mb :: tb :: KF a := fun g hg hm => by
    rcases hF' g hg with h1 | h1
    · exact h.ap g h1 hm
    · have := h.R.flt g hm
      omega
  have hnew := KF.us hus
  have hs := tk.size
  refine ⟨rfl, F', { a with us := us }, ⟨C.frame hK' tkr (fun m hm => ⟨fun hmf => hF2 m hmf ?_, hmge m hm⟩), hR', fun g hg hm => ?_, tickC_ok (carE_zero hc).1 h.ok, h.pln, h.wht⟩, (tk.mono (fun m hm => List.mem_append.2 (Or.inl hm))).trans (tkr.mono (fun m hm => List.mem_append.2 (Or.inr hm))), fun g hg => ?_, rfl⟩
  · rw [List.mem_cons, List.mem_cons]
    rcases List.mem_cons.1 hm with h1 | h1
    · exact Or.inr (Or.inl h1)
    · exact Or.inr (Or.inr (KF.m m h1))
  · rw [List.mem_cons, List.mem_cons] at hm
    have h0 := hF2 g hg
    rw [List.mem_cons, List.mem_cons] at h0
    rcases hm with h1 | h1 | h1
    · exact h0 (Or.inl h1)
    · exact h0 (Or.inr (Or.inl h1))
    · rcases hnew g h1 with h2 | h2
      · exact h0 (Or.inr (Or.inr h2))
      · have := (C.ge hK' g hg).2
        omega
  · rw [List.mem_append, List.mem_cons, List.mem_cons] at hg
    rw [List.mem_append, List.mem_cons, List.mem_cons]
    rcases hg with h1 | h1 | h1 | h1
    · rcases hF' g h1 with h2 | h2
      · exact Or.inl (Or.inl h2)
      · exact Or.inr h2
    · exact Or.inl (Or.inr (Or.inl h1))
    · exact Or.inl (Or.inr (Or.inr (Or.inl h1)))
    · rcases hnew g h1 with h2 | h2
      · exact Or.inl (Or.inr (Or.inr (Or.inr h2)))
      · exact Or.inr (by omega)
end
end Go.Proofs.YteoemcekkcnplafGreatDoor
