/-
  The law AlonePlays: a machine of package alone and the document's side by side.
-/
import Derived.Test.YtanndhamnfnjfafDoorJb2
import Derived.Test.YtanndhamnfnjfafDoorRAlone
import Derived.Test.YtanndhamnfnjfafDoorJb1
namespace Go.Proofs.YtanndhamnfnjfafDoor
open Go.RowKit

theorem RAl.frame {w w' : World} {mb : Nat} {cv : Value} {a : AD} (h : RAl w mb cv a) {M : List Nat} (ht : KTouch M w w') (hm : mb ∉ M) (hc : ∀ g, cv.ownBlock = some g → g ∉ M) : RAl w' mb cv a :=
  ⟨(ht.block mb h.lt hm).trans h.blk, h.ops.block (fun k hk he => ht.block k hk (hc k he)) ht.size⟩
/-- Both are the same room. -/
structure AP {G : World → Prop} (C : AlnC G) (w1 wr : World) (x : AD) (ab : Nat) (F : List Nat) (mb : Nat) (cv : Value) : Prop where
  A : C.A w1 wr x ab F
  R : RAl wr mb cv x
  ap : mb ∉ F
  ge : w1.heap.size ≤ mb
  cb : ∀ g, cv.ownBlock = some g → g < w1.heap.size
theorem AP.set {G : World → Prop} {C : AlnC G} {w1 wr w' : World} {x : AD} {ab : Nat} {F : List Nat} {mb : Nat} {cv : Value} (h : AP C w1 wr x ab F mb cv) {M : List Nat} (ht : KTouch M wr w') (hM : ∀ m ∈ M, m ∉ F ∧ m ≠ mb ∧ w1.heap.size ≤ m) : AP C w1 w' x ab F mb cv :=
  ⟨C.frame h.A ht (fun m hm => ⟨(hM m hm).1, (hM m hm).2.2⟩), h.R.frame ht (fun hm => (hM mb hm).2.1 rfl) (fun g hg hm => by have := h.cb g hg; have := (hM g hm).2.2; omega), h.ap, h.ge, h.cb⟩
theorem AP.all {G : World → Prop} {C : AlnC G} {w1 wr w' : World} {x : AD} {ab : Nat} {F : List Nat} {mb : Nat} {cv : Value} (h : AP C w1 wr x ab F mb cv) (hb : Below wr.heap.size wr w') : AP C w1 w' x ab F mb cv := h.set (KTouch.of (M := []) hb) (by simp)
theorem AP.flt {G : World → Prop} {C : AlnC G} {w1 wr : World} {x : AD} {ab : Nat} {F : List Nat} {mb : Nat} {cv : Value} (h : AP C w1 wr x ab F mb cv) : ∀ g ∈ mb :: F, w1.heap.size ≤ g ∧ g < wr.heap.size := fun g hg => by
  rcases List.mem_cons.1 hg with h1 | h1
  · subst h1
    exact ⟨h.ge, h.R.lt⟩
  · exact C.ge h.A g h1
/-- A step of the document's; then, behind what the caller writes into memory of its own, a step of the package's. -/
theorem ap_step {G : World → Prop} {C : AlnC G} {w1 W : World} {x : AD} {ab : Nat} {F : List Nat} {mb : Nat} {cv : Value} (hG : G w1) (h : AP C w1 W x ab F mb cv) (hx : AOk x) (ht : 0 ≤ x.t ∧ x.t < 1000000) (v : Int) (is : Bool) (hg : ¬ gotNo v is) :
    Calls Tryd.prog 7 #[.pointer (some ⟨mb, 0, none⟩), .int .i64 v, .bool is] W fun e w2 => e = .returned (.tuple #[evA (evOf x is), .int .i64 (sentA x)]) ∧ KTouch [mb] W w2 ∧ ∀ M w3, KTouch M w2 w3 → (∀ m ∈ M, m ∉ F ∧ m ≠ mb ∧ w1.heap.size ≤ m) →
      Calls Tryd.prog 8 #[.pointer (some ⟨ab, 0, none⟩), .int .i64 v, .bool is] w3 fun e w' => e = .returned (.tuple #[evA (evOf x is), .int .i64 (sentA x), .nilIface]) ∧ KTouch F w3 w' ∧ ∃ F', AP C w1 w' (stepA x v is) ab F' mb cv ∧ ∀ g ∈ F', g ∈ F ∨ w3.heap.size ≤ g := by
  refine (ralstep_any x mb cv v is W h.R hx ht (fun g hg e => by have := h.cb g hg; have := h.ge; omega)).mono ?_
  rintro e w2 ⟨rfl, hR2, tk2⟩
  refine ⟨rfl, tk2, fun M w3 tk3 hM => ?_⟩
  have hA3 := C.frame (C.frame h.A tk2 (fun m hm => by rw [List.mem_singleton] at hm; subst hm; exact ⟨h.ap, h.ge⟩)) tk3 (fun m hm => ⟨(hM m hm).1, (hM m hm).2.2⟩)
  have hR3 := hR2.frame tk3 (fun hm => (hM mb hm).2.1 rfl) (fun g hg hm => by have := h.cb g hg; have := (hM g hm).2.2; omega)
  refine (C.step v is hG hA3 hx hg ht.2).mono ?_
  rintro e w' ⟨rfl, F', hA', tk', hF'⟩
  refine ⟨rfl, tk', F', ⟨hA', hR3.frame tk' h.ap (fun g hg hm => by have := h.cb g hg; have := (C.ge hA3 g hm).1; omega), fun hm => ?_, h.ge, h.cb⟩, hF'⟩
  rcases hF' mb hm with h1 | h1
  · exact h.ap h1
  · have := hR3.lt
    omega
/-- Two numbers in a block. -/
def V2 (W : World) (b : Nat) (f : Nat → Int) : Prop := W.heap[b]? = some (.cells #[.int .i64 (f 0), .int .i64 (f 1)] 42 (0, 0))
theorem V2.cs {W : World} {b : Nat} {f : Nat → Int} (h : V2 W b f) : W.cell? ⟨b, 0, none⟩ = some (.int .i64 (f 0)) ∧ W.cell? ⟨b, 1, none⟩ = some (.int .i64 (f 1)) := by
  have e : W.heap[b]? = _ := h
  simp [World.cell?, e]
theorem V2.lt {W : World} {b : Nat} {f : Nat → Int} (h : V2 W b f) : b < W.heap.size := (Array.getElem?_eq_some_iff.1 h).1
theorem V2.fz {W : World} {b : Nat} {f : Nat → Int} (h : V2 W b f) (j : Nat) : W.frozen? ⟨b, j, none⟩ = false := by
  have e : W.heap[b]? = _ := h
  simp [World.frozen?, e]
theorem V2.at {W : World} {b : Nat} {f : Nat → Int} (h : V2 W b f) {j : Nat} (hj : j < 2) : W.cell? ⟨b, j, none⟩ = some (.int .i64 (f j)) := by
  obtain ⟨h0, h1⟩ := h.cs
  match j, hj with
  | 0, _ => exact h0
  | 1, _ => exact h1
theorem V2.set {W : World} {b : Nat} {f : Nat → Int} (h : V2 W b f) {j : Nat} (hj : j < 2) (x : Int) : V2 (W.setCell ⟨b, j, none⟩ (.int .i64 x)) b (fun q => if q = j then x else f q) := by
  have e : W.heap[b]? = _ := h
  unfold V2
  match j, hj with
  | 0, _ => simp [World.setCell, Array.getElem?_modify, e]
  | 1, _ => simp [World.setCell, Array.getElem?_modify, e]
theorem V2.eq {W : World} {b : Nat} {f g : Nat → Int} (h : V2 W b f) (he : ∀ q, q < 2 → f q = g q) : V2 W b g := by
  unfold V2 at *
  rw [← he 0 (by omega), ← he 1 (by omega)]
  exact h
/-- What is in a row of steps. -/
def got2 (l : List Int) (j : Nat) : Nat → Int := fun q => if q < j then l.getD q 0 else 0
theorem got2_next {l : List Int} {j : Nat} {x : Int} (hx : l[j]? = some x) (q : Nat) : (if q = j then x else got2 l j q) = got2 l (j + 1) q := by
  unfold got2
  by_cases h : q = j
  · subst h
    simp [List.getD, hx]
  · by_cases h2 : q < j
    · simp [h, h2, show q < j + 1 by omega]
    · simp [h, h2, show ¬ q < j + 1 by omega]
theorem got2_end {l : List Int} {j : Nat} (hj : ¬ j < min l.length 2) (q : Nat) (hq : q < 2) : got2 l j q = l.getD q 0 := by
  unfold got2
  by_cases h : q < j
  · simp [h]
  · have : l.length ≤ q := by omega
    simp [h, List.getD, List.getElem?_eq_none this]
end Go.Proofs.YtanndhamnfnjfafDoor
