/-
  A range over a function whose iterator keeps its state in a variable that it has captured (one block, Bi, laid ahead of the loop): the law of the walk. Of any program.
-/
import Derived.RangeFuncNested
import Derived.RangeFuncBound
import Derived.RangeFuncCalls
import Derived.RangeFuncLeaves
namespace Go.Proofs.YtamnfadngbbaeacGreatDoor
open Go Go.RowKit

/-- What abides the iterator's own steps: new blocks, draws, writes to block Bi alone. -/
def Free {β : Type} (Bi : Nat) (J : β → World → Prop) : Prop := ∀ s W W', J s W → W.grownBy W' (some Bi) → J s W'
/-- What abides these, and the turns of the loop's own blocks, which are no cells and lie from B on. -/
def Steady {β : Type} (B Bi : Nat) (I : β → World → Prop) : Prop :=
  ∀ s W W' row, I s W → W.grownBy W' row → (∀ r, row = some r → r = Bi ∨ (B ≤ r ∧ ∃ o : Obj, W.heap[r]? = some o ∧ o.isCells = false)) → I s W'
theorem Steady.own {β : Type} {B Bi : Nat} {I : β → World → Prop} (h : Steady B Bi I) : OwnFrom B I := fun s W W' row hs hg hr => h s W W' row hs hg (fun r e => Or.inr (hr r e))
theorem Steady.free {β : Type} {B Bi : Nat} {I : β → World → Prop} (h : Steady B Bi I) : Free Bi I := fun s W W' hs hg => h s W W' (some Bi) hs hg (fun r e => Or.inl (by cases e; rfl))
theorem Steady.and {β : Type} {B Bi : Nat} {I I' : β → World → Prop} (h : Steady B Bi I) (h' : Steady B Bi I') : Steady B Bi (fun s W => I s W ∧ I' s W) := fun s W W' row hs hg hr => ⟨h s W W' row hs.1 hg hr, h' s W W' row hs.2 hg hr⟩
theorem steady_pure {β : Type} (B Bi : Nat) (p : β → Prop) : Steady B Bi (fun s (_ : World) => p s) := fun _ _ _ _ hs _ _ => hs
theorem steady_below {β : Type} {B Bi n₀ : Nat} {w₀ : World} (hB : n₀ ≤ B) (hi : n₀ ≤ Bi) : Steady B Bi (fun (_ : β) W => Below n₀ w₀ W ∧ n₀ ≤ W.heap.size) := fun _ W W' row hs hg hr =>
  ⟨hs.1.grown hg hs.2 (fun r e => by rcases hr r e with h | h; omega; exact Nat.le_trans hB h.1), Nat.le_trans hs.2 hg.size⟩

/-- How the body of a round may be left: it goes on, or it returns. -/
def statePost {α : Type} (B Bi m : Nat) (I Ix : List α → World → Prop) (xs : List α) (W : World) : Exit → Act → World → Prop
  | .normal, _, W' => KeepsFrom B W W' ∧ (∀ k, Bi ≤ k → k < Bi + m → W'.heap[k]? = W.heap[k]?) ∧ I xs W'
  | .ret, _, W' => KeepsFrom B W W' ∧ Ix xs W'
  | _, _, _ => False

/-- An iterator that gives xs, its state in block Bi; it reads the m blocks from Bi on. -/
def Gives {α : Type} (F : Fence) (n : Nat) (P : Program) (g : Nat) (lb : Array Value) (enc : α → Value) (Bi m : Nat) (S Sp : List α → Prop) (N : Nat) (w : World) : Prop :=
  ∀ (l : Nat) (J Jx : List α → World → Prop) (W : World), Below w.heap.size w W → Free Bi J → Free Bi Jx →
    (∀ pre x W1, J pre W1 → pre.length < N → YieldAt F (n - 1) P l #[enc x] W1 fun e W' =>
      (e = .returned (.bool true) ∧ J (pre ++ [x]) W' ∧ ∀ k, Bi ≤ k → k < Bi + m → W'.heap[k]? = W1.heap[k]?) ∨ (e = .returned (.bool false) ∧ Jx (pre ++ [x]) W')) →
    J [] W → CallsIn F n P g (#[.func (.yield l) #[] #[]] ++ lb) W fun e W' => (∃ v, e = .returned v) ∧ ((∃ xs, S xs ∧ J xs W') ∨ (∃ pre, Sp pre ∧ Jx pre W'))

variable {F : Fence} {n : Nat} {P : Program}

theorem wpIn_rangeState {α : Type} {g : Operand} {p : Tmp} (q : Tmp) {assign body : Code} {Q : Exit → Act → World → Prop} {a : Act} {w : World}
    (hro : F.round = none) (h1 : 1 ≤ n) {gf : Nat} {lb : Array Value} (hg : a.eval g = .func (.func gf) #[] lb) (hFg : F.fn gf) (eg : ∀ args w, (callFunc gf args).run P w = .ok (.enter gf args) w)
    {enc : α → Value} {Bi m : Nat} {S Sp : List α → Prop} {N : Nat} (hseq : Gives F (n - 1) P gf lb enc Bi m S Sp N w) (hBi : Bi + m ≤ w.heap.size) (hm : 1 ≤ m)
    (I Ix : List α → World → Prop) (hI : Steady w.heap.size Bi I) (hIx : Steady w.heap.size Bi Ix) (h0 : I [] w)
    (hassign : ∀ (l : Nat) (x : α) (W : World) (K : Act → World → Prop), K { tmps := (a.tmps.setIfInBounds p (enc x)).setIfInBounds q (enc x), defers := [] } W → assign.wpIn (F.inRound l) (n - 1 - 1) P (Exit.then K (fun _ _ _ => False)) { tmps := ((#[p] : Array Tmp).zip #[enc x]).foldl (fun t (p, v) => t.setIfInBounds p v) a.tmps, defers := [] } W)
    (hbody : ∀ (l : Nat) (pre : List α) (x : α) (W : World), I pre W → pre.length < N → body.wpIn (F.inRound l) (n - 1 - 1) P (statePost w.heap.size Bi m I Ix (pre ++ [x]) W) { tmps := (a.tmps.setIfInBounds p (enc x)).setIfInBounds q (enc x), defers := [] } W)
    (hdone : ∀ (D : Nat) (xs : List α) (W : World), w.heap.size ≤ D → S xs → I xs W → W.heap[D]? = some (.deferred (some [])) → Q .normal { a with defers := { target := .collected D, args := #[] } :: a.defers } W)
    (hstop : ∀ (D : Nat) (pre : List α) (W : World), w.heap.size ≤ D → Sp pre → Ix pre W → W.heap[D]? = some (.deferred (some [])) → Code.ret.wpIn F n P Q { a with defers := { target := .collected D, args := #[] } :: a.defers } W) :
    (Code.rangeFunc g #[p] assign body).wpIn F n P Q a w := by
  refine wpIn_rangeFunc fun fn hfn => ?_
  rw [hro]
  obtain ⟨rec, hrec⟩ : ∃ rec : LoopState → Option Code → Loop, rec = fun st pe => { state := st, pending := pe, fn, tmps := a.tmps, params := #[p], assign, body, defers := w.heap.size } := ⟨_, rfl⟩
  obtain ⟨W1, hW1⟩ : ∃ W1, (w.alloc (.deferred (some []))).alloc (.loop (rec .ready none)) = W1 := ⟨_, rfl⟩
  have hL1 : W1.heap[w.heap.size + 1]? = some (.loop (rec .ready none)) := by
    rw [← hW1]; have := World.alloc_heap_new (w.alloc (.deferred (some []))) (.loop (rec .ready none)); rwa [World.size_alloc] at this
  have hK1 : W1.heap[w.heap.size]? = some (.deferred (some [])) := by
    rw [← hW1]; exact (Below.heap_alloc _ _ _ (by simp)).trans (World.alloc_heap_new w _)
  have hI1 : I [] W1 := by rw [← hW1]; exact hI.own.alloc _ (hI.own.alloc _ h0)
  have hb1 : Below w.heap.size w W1 := by rw [← hW1]; exact ((Below.refl _ w).alloc (Nat.le_refl _) _).alloc (by simp) _
  refine ⟨w.heap.size + 1, [{ target := .collected w.heap.size, args := #[] }], W1, { target := .fn (.func gf) lb, args := #[.func (.yield (w.heap.size + 1)) #[] #[]] }, W1, gf,
    #[.func (.yield (w.heap.size + 1)) #[] #[]] ++ lb, W1, ?_, ?_, ?_, ?_, fun _ => h1, ?_⟩
  · rw [← hW1, hrec]; exact run_enterLoop_outer _ _ _ _ _
  · simp only [resolve, hg]
    simp [go_sem]
  · intro f' hf'; simp [Target.leads] at hf'; subst hf'; exact hFg
  · simp [invoke, go_sem, eg]
  · have blk : ∀ {A B : World} (j : Nat) {o : Obj}, w.heap.size ≤ j → A.grownBy B (some Bi) → A.heap[j]? = some o → B.heap[j]? = some o := fun j _ hj hg' h =>
      (hg'.block j (Array.getElem?_eq_some_iff.1 h).1 (fun e => by simp at e; omega)).trans h
    refine (hseq (w.heap.size + 1)
      (fun pre W => I pre W ∧ W.heap[w.heap.size + 1]? = some (.loop (rec .ready none)) ∧ W.heap[w.heap.size]? = some (.deferred (some [])))
      (fun pre W => Ix pre W ∧ W.heap[w.heap.size + 1]? = some (.loop (rec .done (some .ret))) ∧ W.heap[w.heap.size]? = some (.deferred (some [])))
      W1 hb1
      (fun s A B hs hg' => ⟨hI.free s A B hs.1 hg', blk _ (by omega) hg' hs.2.1, blk _ (Nat.le_refl _) hg' hs.2.2⟩)
      (fun s A B hs hg' => ⟨hIx.free s A B hs.1 hg', blk _ (by omega) hg' hs.2.1, blk _ (Nat.le_refl _) hg' hs.2.2⟩)
      ?_ ⟨hI1, hL1, hK1⟩).mono ?_
    · rintro pre x W ⟨hi, hl, hk⟩ hlen
      have hlt : w.heap.size + 1 < W.heap.size := (Array.getElem?_eq_some_iff.1 hl).1
      have hy := run_yield (P := P) (args := #[enc x]) hl (by rw [hrec]; rfl)
      rw [hrec] at hy
      refine ⟨fn, _, assign, body, hy, roundIn_of_wpIn hfn (hassign _ x W _ ?_)⟩
      clear hy
      refine ⟨_, run_beginRound hl (by rw [hrec]), ?_⟩
      have hl2 : (W.putObj (w.heap.size + 1) (.loop { rec .ready none with state := .busy })).heap[w.heap.size + 1]? = some (.loop { rec .ready none with state := .busy }) := World.putObj_heap_same hlt
      have hk2 : (W.putObj (w.heap.size + 1) (.loop { rec .ready none with state := .busy })).heap[w.heap.size]? = some (.deferred (some [])) := (World.putObj_heap_other (by omega)).trans hk
      refine wpIn_mono (hbody _ pre x _ (hI.own.putObj _ hi (by omega) hl rfl) hlen) ?_
      have fin : ∀ (jump : Option Code) (W3 : World), KeepsFrom w.heap.size (W.putObj (w.heap.size + 1) (.loop { rec .ready none with state := .busy })) W3 →
          (Instr.endRound (w.heap.size + 1) jump).run P W3 = .ok (.bool jump.isNone) (W3.putObj (w.heap.size + 1) (.loop (rec (if jump.isNone then .ready else .done) jump))) ∧
          W3.heap[w.heap.size + 1]? = some (.loop { rec .ready none with state := .busy }) ∧
          (W3.putObj (w.heap.size + 1) (.loop (rec (if jump.isNone then .ready else .done) jump))).heap[w.heap.size + 1]? = some (.loop (rec (if jump.isNone then .ready else .done) jump)) ∧
          (W3.putObj (w.heap.size + 1) (.loop (rec (if jump.isNone then .ready else .done) jump))).heap[w.heap.size]? = some (.deferred (some [])) := fun jump W3 hk3 => by
        have hl3 := hk3.same _ _ (by omega) hl2 rfl
        have := run_endRound (P := P) jump hl3
        rw [hrec] at this ⊢
        exact ⟨this, by rw [hrec] at hl3; exact hl3, World.putObj_heap_same (Array.getElem?_eq_some_iff.1 hl3).1, (World.putObj_heap_other (by omega)).trans (hk3.same _ _ (Nat.le_refl _) hk2 rfl)⟩
      rintro e a3 W3 hp
      cases e with
      | normal =>
        obtain ⟨hk3, hs3, hi3⟩ := hp
        obtain ⟨hr, hl3, hl4, hk4⟩ := fin none W3 hk3
        exact ⟨_, _, hr, .inl ⟨rfl, ⟨hI.own.putObj _ hi3 (by omega) hl3 rfl, hl4, hk4⟩, fun k hk0 hk1 => (World.putObj_heap_other (by omega)).trans ((hs3 k hk0 hk1).trans (World.putObj_heap_other (by omega)))⟩⟩
      | ret =>
        obtain ⟨hk3, hi3⟩ := hp
        obtain ⟨hr, hl3, hl4, hk4⟩ := fin (some .ret) W3 hk3
        exact ⟨_, _, hr, .inr ⟨rfl, hIx.own.putObj _ hi3 (by omega) hl3 rfl, hl4, hk4⟩⟩
      | exit id => exact hp.elim
      | goto t => exact hp.elim
      | panic ch => exact hp.elim
      | outgrown => exact hp.elim
    · rintro e W2 ⟨⟨v, rfl⟩, (⟨xs, hS, hi, hl, hk⟩ | ⟨pre, hSp, hi, hl, hk⟩)⟩
      · exact ⟨none, _, by have := run_endLoop (P := P) hl (by rw [hrec]; simp); rw [hrec] at this; exact this, hdone _ xs _ (Nat.le_refl _) hS (hI.own.putObj _ hi (by omega) hl rfl) ((World.putObj_heap_other (by omega)).trans hk)⟩
      · exact ⟨some .ret, _, by have := run_endLoop (P := P) hl (by rw [hrec]; simp); rw [hrec] at this; exact this, hstop _ pre _ (Nat.le_refl _) hSp (hIx.own.putObj _ hi (by omega) hl rfl) ((World.putObj_heap_other (by omega)).trans hk)⟩

theorem keepsFrom_below {B : Nat} {W W' : World} (hb : Below W.heap.size W W') : KeepsFrom B W W' := ⟨hb.size, fun k _ _ hk _ => (hb.block k (Array.getElem?_eq_some_iff.1 hk).1).trans hk⟩
theorem steady_boxed {β : Type} {B Bi : Nat} (b : Nat) (t : TypeId) (f : β → Value) (hne : b ≠ Bi) : Steady B Bi (fun s W => Boxed W b t (f s)) := fun s W W' row hs hg hr =>
  hs.kept hg (fun e => by
    rcases hr b e.symm with h | ⟨_, _, ho, hc⟩
    · exact hne h
    · rw [show W.heap[b]? = _ from hs] at ho; cases ho; cases hc)
theorem own_steady {W W' : World} {row : Option Nat} {B Bi base : Nat} {e : TypeId} {size : Nat} {v : Value} {n : Nat} {xs : List Value} (h : W.ownsRow base e size v n xs) (hg : W.grownBy W' row)
    (hr : ∀ r, row = some r → r = Bi ∨ (B ≤ r ∧ ∃ o : Obj, W.heap[r]? = some o ∧ o.isCells = false)) (hb : Bi < base) : W'.ownsRow base e size v n xs := by
  rcases hrow : row with _ | r
  · exact h.kept hg (by rw [hrow]; cases v.ownBlock <;> simp)
  · refine h.kept hg (Or.inr fun e' => ?_)
    rw [hrow] at e'
    rcases hr r hrow with hB | ⟨_, _, ho, hc⟩
    · have := (h.lt r e').1
      omega
    · rcases h.2 with ⟨hv, _⟩ | ⟨g, cap, cur, hv, _, hgc, _⟩
      · rw [hv] at e'; cases e'
      · rw [hv] at e'
        simp only [Value.ownBlock, Option.some.injEq] at e'
        rw [e'] at hgc
        rw [hgc] at ho
        cases ho; cases hc

/-- A round that calls, then appends to a slice of its own, which lies in a box C ahead of the rows: what it leaves. -/
theorem app_step {W W2 w1 : World} {C base size : Nat} {t e : TypeId} {tmp : Obj} {vv v' : Value} {n m : Nat} {xs ys : List Value} (b2 : Below W.heap.size W W2) (hC : C < base) (hb : base ≤ W.heap.size) (hbv : Boxed W2 C t vv) (hte : t ≠ e)
    (hown2 : W2.ownsRow base e size vv n xs) (hown' : w1.ownsRow base e size v' m ys) (hgrow : (W2.alloc tmp).grownBy w1 vv.ownBlock) :
    KeepsOthers W (w1.setCell ⟨C, 0, none⟩ v') ∧ (∀ k, k < base → k ≠ C → (w1.setCell ⟨C, 0, none⟩ v').heap[k]? = W.heap[k]?) ∧ Boxed (w1.setCell ⟨C, 0, none⟩ v') C t v' ∧ (w1.setCell ⟨C, 0, none⟩ v').ownsRow base e size v' m ys ∧
      Below C W (w1.setCell ⟨C, 0, none⟩ v') ∧ W.heap.size ≤ (w1.setCell ⟨C, 0, none⟩ v').heap.size := by
  have hrow : ∀ j, vv.ownBlock = some j → base ≤ j ∧ ∃ c fz, W2.heap[j]? = some (.cells c e fz) := fun j hj => by
    refine ⟨(hown2.lt j hj).1, ?_⟩
    rcases hown2.2 with ⟨hv, _⟩ | ⟨g, cap, cur, hv, _, hgc, _⟩
    · rw [hv] at hj; cases hj
    · rw [hv] at hj
      simp only [Value.ownBlock, Option.some.injEq] at hj
      exact ⟨_, _, by rw [← hj]; exact hgc⟩
  have hv1 : Boxed w1 C t vv := (hbv.alloc tmp).kept hgrow (hbv.not_row hte hown2)
  have hsz : W.heap.size ≤ w1.heap.size := by have := hgrow.size; have := b2.size; simp at *; omega
  have hsz' : (w1.setCell ⟨C, 0, none⟩ v').heap.size = w1.heap.size := by simp [World.setCell]
  have blk : ∀ k, k < base → k ≠ C → (w1.setCell ⟨C, 0, none⟩ v').heap[k]? = W.heap[k]? := fun k hk hne => by
    rw [Below.heap_setCell _ _ _ _ hne, hgrow.block k (by have := b2.size; simp; omega) (fun e' => by have := (hrow k e'.symm).1; omega), Below.heap_alloc _ _ _ (by have := b2.size; omega), b2.block k (by omega)]
  refine ⟨⟨by rw [hsz']; exact hsz, fun k o hk ho => ?_⟩, blk, hv1.set v', hown'.kept (grownBy_setCell' w1 C v') (Or.inr ((hv1.not_row hte hown').symm)), ?_, by rw [hsz']; exact hsz⟩
  · have h2 : W2.heap[k]? = some o := (b2.block k (Array.getElem?_eq_some_iff.1 hk).1).trans hk
    have hlt := (Array.getElem?_eq_some_iff.1 h2).1
    have hCk : k ≠ C := fun e' => by
      subst e'
      rw [show W2.heap[k]? = _ from hbv] at h2
      cases h2; cases ho
    rw [Below.heap_setCell _ _ _ _ hCk, hgrow.block k (by simp; omega) (fun e' => by
      obtain ⟨_, c, fz, hc⟩ := hrow k e'.symm
      rw [hc] at h2; cases h2; cases ho), Below.heap_alloc _ _ _ hlt, h2]
  · have hg : Below C W2 w1 := ((Below.refl C W2).alloc (by have := b2.size; omega) tmp).grown hgrow (by have := b2.size; simp; omega) (fun j ej => by have := (hrow j ej).1; omega)
    exact ((b2.mono (by omega)).trans hg).setCell (p := ⟨C, 0, none⟩) (Nat.le_refl _) v'
end Go.Proofs.YtamnfadngbbaeacGreatDoor
