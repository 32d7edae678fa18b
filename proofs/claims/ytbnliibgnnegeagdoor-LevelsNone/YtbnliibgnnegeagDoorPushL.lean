/-
  A region that draws its order, whose last operation waits for all others: the others in whatever order, then that one. What holds of the world while the others go need not hold behind the last.
-/
import Derived.Test.YtbnliibgnnegeagDoorEBase
import Derived.Deep.RegionHeld3
namespace Go.Proofs.YtbnliibgnnegeagDoor
open Go.RowKit

section
variable {P : Program} {ops : Array Oper} {st : Oper} {Q : Exit → Act → World → Prop}

/-- Behind a normal end the last operation; else as ever. -/
abbrev thenLast (P : Program) (st : Oper) (Q : Exit → Act → World → Prop) : Exit → Act → World → Prop := Exit.then (fun a w => st.wp P a w (Q .normal) Q) Q

theorem lets_out (h : LetsOut (thenLast P st Q)) : LetsOut Q := by
  obtain ⟨a, w, h⟩ := h
  exact ⟨a, w, h⟩
theorem oper_out {o : Oper} {a : Act} {w : World} {K : Act → World → Prop} (h : o.wp P a w K (thenLast P st Q)) : o.wp P a w K Q := by
  unfold Oper.wp at *
  generalize (execOp a.eval o).run P w = r at *
  cases r with
  | ok n w' =>
    cases n <;> simp only [Oper.upon] at h ⊢ <;> first
      | exact h
      | exact Calls.mono h (fun e w'' he => by cases e <;> first | exact he | exact lets_out he)
  | halt x w' => cases x <;> simp only [Oper.upon] at h ⊢ <;> exact h
/-- Guards none, edges backward, the last one waits for all, itself or by one that it waits for. -/
def WaitsAll (ops : Array Oper) (st : Oper) : Prop :=
  (∀ (i : Nat) o, ops[i]? = some o → o.guard = none ∧ ∀ e ∈ o.after, Region.binds .any e = true → e.on < i) ∧ st.guard = none ∧ (∀ j, j < ops.size → ∃ e ∈ st.after, Region.binds .any e = true ∧ (e.on = j ∨ ∃ o, ops[e.on]? = some o ∧ ∃ e' ∈ o.after, Region.binds .any e' = true ∧ e'.on = j)) ∧ ∀ e ∈ st.after, Region.binds .any e = true → e.on < ops.size
/-- What is listed waits for nothing. -/
def Shut (ops : Array Oper) (listed : Array Bool) : Prop := ∀ (i : Nat) o, listed.getD i false = true → ops[i]? = some o → ∀ e ∈ o.after, Region.binds .any e = true → listed.getD e.on false = true
theorem push_getD {listed : Array Bool} {n : Nat} (hn : listed.size = n) (d : Bool) {j : Nat} (hj : j < n) : (listed.push false).getD j d = listed.getD j d := by
  simp [Array.getElem?_push, show j ≠ listed.size by omega]
theorem push_last {listed : Array Bool} {n : Nat} (hn : listed.size = n) (d : Bool) : (listed.push false).getD n d = false := by
  subst hn
  simp
/-- None is ready: all are listed. -/
theorem all_listed (h : WaitsAll ops st) {listed : Array Bool} (hn : listed.size = ops.size) (hr : Region.ready .any ops listed = []) : ∀ j, j < ops.size → listed.getD j false = true := by
  intro j
  induction j using Nat.strongRecOn with
  | _ j ih =>
    intro hj
    cases hb : listed.getD j false with
    | true => rfl
    | false =>
      exfalso
      have hm : j ∈ Region.ready .any ops listed := by
        rw [mem_ready]
        refine ⟨?_, ops[j], Array.getElem?_eq_getElem hj, fun e he hbd => ?_⟩
        · simp only [Array.getD_eq_getD_getElem?, Array.getElem?_eq_getElem (show j < listed.size by omega), Option.getD_some] at hb ⊢
          exact hb
        · have hlt := (h.1 j _ (Array.getElem?_eq_getElem hj)).2 e he hbd
          exact ih e.on hlt (by omega)
      rw [hr] at hm
      cases hm
theorem ready_push (h : WaitsAll ops st) {listed : Array Bool} (hn : listed.size = ops.size) (hsh : Shut ops listed) {j : Nat} (hj : j ∈ Region.ready .any (ops.push st) (listed.push false)) : (j ∈ Region.ready .any ops listed) ∨ (j = ops.size ∧ ∀ i, i < ops.size → listed.getD i false = true) := by
  rw [mem_ready] at hj
  obtain ⟨h0, o, ho, hall⟩ := hj
  have hlt : j < (ops.push st).size := (Array.getElem?_eq_some_iff.1 ho).1
  rw [Array.size_push] at hlt
  by_cases hjn : j = ops.size
  · refine Or.inr ⟨hjn, fun i hi => ?_⟩
    subst hjn
    rw [Array.getElem?_push_size] at ho
    obtain rfl := Option.some.inj ho
    obtain ⟨e, he, hb, hon⟩ := h.2.2.1 i hi
    have := hall e he hb
    rw [push_getD hn _ (h.2.2.2 e he hb)] at this
    rcases hon with hon | ⟨o, ho, e', he', hb', hon⟩
    · rw [hon] at this
      exact this
    · have h2 := hsh e.on o this ho e' he' hb'
      rw [hon] at h2
      exact h2
  · have hj' : j < ops.size := by omega
    left
    rw [mem_ready]
    rw [Array.getElem?_push_lt hj'] at ho
    refine ⟨by rw [push_getD hn _ hj'] at h0; exact h0, o, by rw [Array.getElem?_eq_getElem hj']; exact ho, fun e he hb => ?_⟩
    have h1 := hall e he hb
    have h2 := (h.1 j o (by rw [Array.getElem?_eq_getElem hj']; exact ho)).2 e he hb
    rw [push_getD hn _ (show e.on < ops.size by omega)] at h1
    exact h1
theorem op_push (h : WaitsAll ops st) {i : Nat} (hi : i < ops.size) {K K' : Act → World → Prop} {a : Act} {w : World} (hk : ∀ a w, K a w → K' a w) (hw : wpOp P ops (thenLast P st Q) i K a w) : wpOp P (ops.push st) Q i K' a w := by
  unfold wpOp at *
  rw [Array.getElem?_push_lt hi]
  rw [Array.getElem?_eq_getElem hi] at hw
  have hg := (h.1 i _ (Array.getElem?_eq_getElem hi)).1
  simp only [Region.wanted, hg, if_true] at hw ⊢
  rcases hw with hw | ⟨h1, h2⟩
  · exact Or.inl (Oper.wp_mono hk (oper_out hw))
  · exact Or.inr ⟨h1, lets_out h2⟩
theorem last_push (h : WaitsAll ops st) {listed : Array Bool} (hn : listed.size = ops.size) (hl : ∀ i, i < ops.size → listed.getD i false = true) (fuel : Nat) {a : Act} {w : World} (hq : st.wp P a w (Q .normal) Q) : wpAny P .any (ops.push st) Q (fuel + 1) (listed.push false) a w := by
  have hme : ops.size ∈ Region.ready .any (ops.push st) (listed.push false) := by
    rw [mem_ready]
    refine ⟨push_last hn true, st, Array.getElem?_push_size, fun e he hb => ?_⟩
    have := h.2.2.2 e he hb
    rw [push_getD hn _ this]
    exact hl _ this
  refine ⟨fun h0 => (by rw [h0] at hme; cases hme), fun i hi => ?_⟩
  have hin : i = ops.size := by
    have hsh : Shut ops listed := fun i o _ ho e he hb => by
      have h1 := (Array.getElem?_eq_some_iff.1 ho).1
      have h2 := (h.1 i o ho).2 e he hb
      exact hl _ (by omega)
    rcases ready_push h hn hsh hi with h1 | ⟨h1, _⟩
    · rw [mem_ready] at h1
      obtain ⟨h2, o, ho, _⟩ := h1
      have hlt := (Array.getElem?_eq_some_iff.1 ho).1
      have := hl i hlt
      simp only [Array.getD_eq_getD_getElem?, Array.getElem?_eq_getElem (show i < listed.size by omega), Option.getD_some] at h2 this
      rw [h2] at this
      cases this
    · exact h1
  subst hin
  have hdone : ∀ a w, Q .normal a w → ∀ fuel, wpAny P .any (ops.push st) Q fuel ((listed.push false).setIfInBounds ops.size true) a w := fun a w hqn fuel => by
    refine wpAny_done ?_ hqn fuel
    rw [List.eq_nil_iff_forall_not_mem]
    intro j hj
    rw [mem_ready] at hj
    obtain ⟨h2, o, ho, _⟩ := hj
    have hlt := (Array.getElem?_eq_some_iff.1 ho).1
    rw [Array.size_push] at hlt
    by_cases hjn : j = ops.size
    · subst hjn
      simp [hn.symm] at h2
    · rw [getD_set_ne true (Ne.symm hjn), push_getD hn _ (by omega)] at h2
      have := hl j (by omega)
      simp only [Array.getD_eq_getD_getElem?, Array.getElem?_eq_getElem (show j < listed.size by omega), Option.getD_some] at h2 this
      rw [h2] at this
      cases this
  unfold wpOp
  rw [Array.getElem?_push_size]
  simp only [Region.wanted, h.2.1, if_true]
  exact Or.inl (Oper.wp_mono (fun a w hqn => hdone a w hqn fuel) hq)
theorem shut_step {listed : Array Bool} (hsh : Shut ops listed) {i : Nat} (hi : i ∈ Region.ready .any ops listed) : Shut ops (listed.setIfInBounds i true) := by
  have up : ∀ j, listed.getD j false = true → (listed.setIfInBounds i true).getD j false = true := fun j hj => by
    by_cases hji : i = j
    · subst hji
      have hlt : i < listed.size := by
        rcases Nat.lt_or_ge i listed.size with h | h
        · exact h
        · simp [Array.getElem?_eq_none h] at hj
      simp [hlt]
    · rw [getD_set_ne false hji]
      exact hj
  intro j o hj ho e he hb
  by_cases hji : i = j
  · subst hji
    rw [mem_ready] at hi
    obtain ⟨_, o', ho', hall⟩ := hi
    rw [ho] at ho'
    obtain rfl := Option.some.inj ho'
    exact up _ (hall e he hb)
  · rw [getD_set_ne false hji] at hj
    exact up _ (hsh j o hj ho e he hb)
theorem wpAny_push (h : WaitsAll ops st) : ∀ (fuel : Nat) (listed : Array Bool) (a : Act) (w : World), listed.size = ops.size → Shut ops listed → wpAny P .any ops (thenLast P st Q) fuel listed a w → wpAny P .any (ops.push st) Q (fuel + 1) (listed.push false) a w
  | 0, listed, a, w, hn, _, hw => last_push h hn (all_listed h hn hw.1) 0 hw.2
  | fuel + 1, listed, a, w, hn, hsh, hw => by
    by_cases hr : Region.ready .any ops listed = []
    · exact last_push h hn (all_listed h hn hr) _ (hw.1 hr)
    · have hnot : ¬ ∀ i, i < ops.size → listed.getD i false = true := fun hl => by
        obtain ⟨x, hx⟩ := List.exists_mem_of_ne_nil _ hr
        rw [mem_ready] at hx
        obtain ⟨h2, o, ho, _⟩ := hx
        have hlt := (Array.getElem?_eq_some_iff.1 ho).1
        have := hl x hlt
        simp only [Array.getD_eq_getD_getElem?, Array.getElem?_eq_getElem (show x < listed.size by omega), Option.getD_some] at h2 this
        rw [h2] at this
        cases this
      refine ⟨fun h0 => ?_, fun i hi => ?_⟩
      · exfalso
        obtain ⟨x, hx⟩ := List.exists_mem_of_ne_nil _ hr
        have hx' : x ∈ Region.ready .any (ops.push st) (listed.push false) := by
          rw [mem_ready] at hx ⊢
          obtain ⟨h2, o, ho, h3⟩ := hx
          have hlt := (Array.getElem?_eq_some_iff.1 ho).1
          refine ⟨by rw [push_getD hn _ hlt]; exact h2, o, by rw [Array.getElem?_push_lt hlt]; rw [Array.getElem?_eq_getElem hlt] at ho; exact ho, fun e he hb => ?_⟩
          have := (h.1 x o ho).2 e he hb
          rw [push_getD hn _ (show e.on < ops.size by omega)]
          exact h3 e he hb
        rw [h0] at hx'
        cases hx'
      · rcases ready_push h hn hsh hi with h1 | ⟨_, h1⟩
        · have hlt : i < ops.size := by
            rw [mem_ready] at h1
            obtain ⟨_, o, ho, _⟩ := h1
            exact (Array.getElem?_eq_some_iff.1 ho).1
          refine op_push h hlt (fun a' w' h2 => ?_) (hw.2 i h1)
          have h3 := wpAny_push h fuel (listed.setIfInBounds i true) a' w' (by simpa using hn) (shut_step hsh h1) h2
          have e : (listed.push false).setIfInBounds i true = (listed.setIfInBounds i true).push false := by
            apply Array.ext_getElem?
            intro j
            by_cases hji : i = j
            · subst hji
              rw [Array.getElem?_setIfInBounds_self, Array.getElem?_push_lt (by simpa using (show i < listed.size by omega))]
              simp [show i < listed.size + 1 by omega]
            · rw [Array.getElem?_setIfInBounds_ne hji, Array.getElem?_push, Array.getElem?_push, Array.size_setIfInBounds, Array.getElem?_setIfInBounds_ne hji]
          rw [e]
          exact h3
        · exact absurd h1 hnot
/-- The check, reckoned. -/
def waitsB (ops : Array Oper) (st : Oper) : Bool :=
  (List.range ops.size).all (fun i => match ops[i]? with | some o => o.guard.isNone && o.after.all (fun e => !Region.binds .any e || decide (e.on < i)) | none => true) && st.guard.isNone && (List.range ops.size).all (fun j => st.after.any (fun e => Region.binds .any e && (decide (e.on = j) || match ops[e.on]? with | some o => o.after.any (fun e' => Region.binds .any e' && decide (e'.on = j)) | none => false))) && st.after.all (fun e => !Region.binds .any e || decide (e.on < ops.size))
theorem waits_of (h : waitsB ops st = true) : WaitsAll ops st := by
  unfold waitsB at h
  simp only [Bool.and_eq_true, List.all_eq_true, List.mem_range, Array.all_eq_true_iff_forall_mem, Bool.or_eq_true, Bool.not_eq_true', decide_eq_true_eq] at h
  obtain ⟨⟨⟨h1, h2⟩, h3⟩, h4⟩ := h
  refine ⟨fun i o ho => ?_, by simpa using h2, fun j hj => ?_, fun e he hb => ?_⟩
  · have hi := (Array.getElem?_eq_some_iff.1 ho).1
    have := h1 i hi
    rw [ho] at this
    simp only [Bool.and_eq_true, Array.all_eq_true_iff_forall_mem, Bool.or_eq_true, Bool.not_eq_true', decide_eq_true_eq] at this
    refine ⟨by simpa using this.1, fun e he hb => ?_⟩
    rcases this.2 e he with h5 | h5
    · rw [hb] at h5; cases h5
    · exact h5
  · have := h3 j hj
    rw [Array.any_eq_true] at this
    obtain ⟨k, hk, hx⟩ := this
    simp only [Bool.and_eq_true, Bool.or_eq_true, decide_eq_true_eq] at hx
    refine ⟨_, Array.getElem_mem hk, hx.1, ?_⟩
    rcases hx.2 with h5 | h5
    · exact Or.inl h5
    · right
      cases ho : ops[(st.after[k]).on]? with
      | none => rw [ho] at h5; cases h5
      | some o =>
        rw [ho] at h5
        simp only [Array.any_eq_true, Bool.and_eq_true, decide_eq_true_eq] at h5
        obtain ⟨m, hm, h6, h7⟩ := h5
        exact ⟨o, rfl, _, Array.getElem_mem hm, h6, h7⟩
  · rcases h4 e he with h5 | h5
    · rw [hb] at h5; cases h5
    · exact h5
/-- A region that draws, whose last operation waits for all others. -/
theorem wp_region_last {id : Nat} {all : Array Oper} {a : Act} {w : World} (S : World → Prop) (hm : P.follows .mixedOrders = true) (ha : all = ops.push st) (hc : waitsB ops st = true)
    (h : wpAnyH P .any ops (thenLast P st Q) S ops.size (Array.replicate ops.size false) a w.drew) : (Code.region id all true).wp P Q a w := by
  subst ha
  refine wp_region_any hm ?_
  have := wpAny_push (waits_of hc) _ _ a _ (by simp) (fun i o hi => by exfalso; simp only [Array.getD_eq_getD_getElem?, Array.getElem?_replicate] at hi; split at hi <;> simp at hi) (wpAny_of_held _ _ _ _ h)
  rw [Array.size_push, Array.replicate_succ]
  exact this
/-- .. the region written out. -/
theorem wp_region_popped {P : Program} {Q : Exit → Act → World → Prop} {id : Nat} {all : Array Oper} {st : Oper} {a : Act} {w : World} (S : World → Prop) (hm : P.follows .mixedOrders = true) (ha : all = all.pop.push st) (hc : waitsB all.pop st = true) (hS : S w.drew)
    (h : S w.drew → wpAnyH P .any all.pop (thenLast P st Q) S all.pop.size (Array.replicate all.pop.size false) a w.drew) : (Code.region id all true).wp P Q a w := wp_region_last S hm ha hc (h hS)
end
end Go.Proofs.YtbnliibgnnegeagDoor
