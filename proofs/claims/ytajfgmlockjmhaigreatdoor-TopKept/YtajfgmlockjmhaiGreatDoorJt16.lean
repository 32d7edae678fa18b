/-
  SnTakeA, SnRead1: joined into one text.
-/
import Derived.Test.YtajfgmlockjmhaiGreatDoorSnTake
import Derived.Test.YtajfgmlockjmhaiGreatDoorJt7
import Derived.Test.YtajfgmlockjmhaiGreatDoorJt11
import Derived.Test.YtajfgmlockjmhaiGreatDoorJt10
import Derived.Maps.AppendAt
namespace Go.Proofs.YtajfgmlockjmhaiGreatDoor
open Go.RowKit

theorem eight_or (ns : List Int) : (∃ p d0 d1 d2 d3 d4 d5 f, ns = [p, d0, d1, d2, d3, d4, d5, f]) ∨ (ns.length ≠ 8 ∧ stOf ns = none) := by
  match ns with
  | [] => exact Or.inr ⟨by simp, rfl⟩
  | [_] => exact Or.inr ⟨by simp, rfl⟩
  | [_, _] => exact Or.inr ⟨by simp, rfl⟩
  | [_, _, _] => exact Or.inr ⟨by simp, rfl⟩
  | [_, _, _, _] => exact Or.inr ⟨by simp, rfl⟩
  | [_, _, _, _, _] => exact Or.inr ⟨by simp, rfl⟩
  | [_, _, _, _, _, _] => exact Or.inr ⟨by simp, rfl⟩
  | [_, _, _, _, _, _, _] => exact Or.inr ⟨by simp, rfl⟩
  | [p, d0, d1, d2, d3, d4, d5, f] => exact Or.inl ⟨p, d0, d1, d2, d3, d4, d5, f, rfl⟩
  | _ :: _ :: _ :: _ :: _ :: _ :: _ :: _ :: _ :: _ => exact Or.inr ⟨by simp, rfl⟩
theorem take_any {base b R V : Nat} {a : KA} {vr vw : Value} {us : List (Value × Int)} (ns : List Int) (v : Value) (word : List UInt8) (w : World) (h : KpB w base b a.t vr vw a.rs us a.zs) (ha : KAok R V a) (hR : R ≤ 5) (hV : V ≤ 12) (hw : kpWord R V a.i = some word) (own : w.ownsRow base 3 1 v ns.length (ints ns)) (hx : ns.length ≤ 2000000000000) :
    Calls Tryz.prog 76 #[.pointer (some ⟨b, 0, none⟩), .string ⟨word.toArray⟩, v] w fun e w' => (kpTake R a ns = none ∧ e = .returned (.bool false) ∧ w' = w) ∨ (∃ a' vr' vw' us', kpTake R a ns = some a' ∧ e = .returned (.bool true) ∧ KpB w' base b a'.t vr' vw' a'.rs us' a'.zs ∧ Tk base b w w') := by
  obtain ⟨ao, cap, rfl⟩ := sl_form own
  have hrs : a.rs.length ≤ 1000 := by rw [ha.rs]; omega
  have hus : us.length ≤ 1000 := by rw [h.ul, ha.zs]; have := ha.le; omega
  have row : ns ≠ [] → ∃ g, ao = some ⟨g, 0, none⟩ ∧ ns.length ≤ cap ∧ cap ≤ 9223372036854775807 ∧ ∀ (i : Nat) x, ns[i]? = some x → w.cell? ⟨g, i, none⟩ = some (.int .i64 x) := fun hne => by
    rcases row_form own with ⟨e, h0⟩ | ⟨g, cap', e⟩
    · exact absurd (List.eq_nil_of_length_eq_zero h0) hne
    · injection e with e1 _ e3
      subst e1
      have hc := own_cap own
      exact ⟨g, rfl, hc.2.2.1, hc.2.2.2.1, fun i x hi => hc.2.2.2.2.1 i _ (ints_at hi)⟩
  unfold kpWord at hw
  unfold kpTake
  by_cases h0 : a.i = 0
  · rw [if_pos h0] at hw
    obtain rfl := Option.some.inj hw
    simp only [if_pos h0]
    match ns, row, own, hx with
    | [], _, _, _ => exact (take_tno (b := b) ao 0 cap w (by decide)).mono (fun e w' hq => Or.inl ⟨rfl, hq.1, hq.2⟩)
    | [n], row, _, _ =>
      obtain ⟨g, rfl, _, _, hc⟩ := row (by simp)
      exact (take_time n g cap w h (hc 0 n rfl)).mono (fun e w' hq => Or.inr ⟨_, _, _, _, rfl, hq.1, hq.2.1, hq.2.2⟩)
    | n :: m :: l, _, _, _ => exact (take_tno (b := b) ao (l.length + 1 + 1) cap w (by omega)).mono (fun e w' hq => Or.inl ⟨rfl, hq.1, hq.2⟩)
  · rw [if_neg h0] at hw
    simp only [if_neg h0]
    by_cases h1 : a.i ≤ R
    · rw [if_pos h1] at hw
      obtain rfl := Option.some.inj hw
      simp only [if_pos h1]
      rcases eight_or ns with ⟨p, d0, d1, d2, d3, d4, d5, f, rfl⟩ | ⟨hl, hs⟩
      · obtain ⟨g, rfl, h8, hm, hc⟩ := row (by simp)
        by_cases hf : 1 < f
        · refine (take_rbad (b := b) g cap f w hf (hc 7 f rfl)).mono (fun e w' hq => Or.inl ⟨?_, hq.1, hq.2⟩)
          unfold stOf
          simp only
          rw [if_pos hf]
          rfl
        · refine (take_room p d0 d1 d2 d3 d4 d5 f g cap w h hrs h8 hm (hc 0 _ rfl) (hc 1 _ rfl) (hc 2 _ rfl) (hc 3 _ rfl) (hc 4 _ rfl) (hc 5 _ rfl) (hc 6 _ rfl) (hc 7 _ rfl) (by omega) _ rfl).mono ?_
          rintro e w' ⟨he, vr', q1, q2⟩
          refine Or.inr ⟨⟨a.i + 1, a.t, a.rs ++ [⟨p, _, _⟩], a.zs⟩, vr', vw, us, ?_, he, q1, q2⟩
          unfold stOf
          simp only
          rw [if_neg hf]
          rfl
      · rw [hs]
        exact (take_rno (b := b) ao ns.length cap w hl).mono (fun e w' hq => Or.inl ⟨rfl, hq.1, hq.2⟩)
    · rw [if_neg h1] at hw
      simp only [if_neg h1]
      by_cases h2 : a.i ≤ R + V
      · rw [if_pos h2] at hw
        obtain rfl := Option.some.inj hw
        match ns, row, own, hx with
        | [], _, _, _ => exact (take_wno (b := b) ao cap w).mono (fun e w' hq => Or.inl ⟨rfl, hq.1, hq.2⟩)
        | n :: xs, row, own, hx =>
          obtain ⟨g, rfl, _, _, _⟩ := row (by simp)
          refine (take_wire n xs g cap w h hus (by rw [List.length_cons] at hx; omega) own).mono ?_
          rintro e w' ⟨he, vw', u, q1, q2⟩
          exact Or.inr ⟨⟨a.i + 1, a.t, a.rs, a.zs ++ [(xs, n)]⟩, vr, vw', _, rfl, he, q1, q2⟩
      · rw [if_neg h2] at hw
        cases hw
end Go.Proofs.YtajfgmlockjmhaiGreatDoor
namespace Go.Proofs.YtajfgmlockjmhaiGreatDoor
open Go.RowKit Go.Shelf

theorem three_time (w : World) (o1 o2 o4 : Obj) : ((((w.alloc o1).alloc o2).alloc (.cells #[.string ⟨#[116, 105, 109, 101]⟩] 9)).alloc o4).cell? ⟨w.heap.size + 1 + 1, 0, none⟩ = some (strV snTimeW) := by
  have h : w.heap.size + 1 + 1 = ((w.alloc o1).alloc o2).heap.size := by simp
  have q : (((w.alloc o1).alloc o2).alloc (.cells #[.string ⟨#[116, 105, 109, 101]⟩] 9)).cell? ⟨w.heap.size + 1 + 1, 0, none⟩ = some (strV snTimeW) := by
    rw [h]
    exact cell_at_new rfl _ _
  exact (((Below.refl _ _).alloc (Nat.le_refl _) o4).cell (p := ⟨w.heap.size + 1 + 1, 0, none⟩) (by simp)).trans q
theorem res_six (w : World) (o2 o3 o4 : Obj) : ((((w.alloc (.cells #[.int .i64 0, .slice none 0 0, .slice none 0 0] 103)).alloc o2).alloc o3).alloc o4).heap[w.heap.size]? = some (.cells #[.int .i64 0, .slice none 0 0, .slice none 0 0] 103 (0, 0)) :=
  (((((Below.refl _ (w.alloc (.cells #[.int .i64 0, .slice none 0 0, .slice none 0 0] 103))).alloc (Nat.le_refl _) o2).alloc (by simp) o3).alloc (by simp) o4).block _ (by simp)).trans (World.alloc_heap_new _ _)
theorem res_seven (w : World) (o1 o3 o4 : Obj) : ((((w.alloc o1).alloc (.cells #[.bool false] 4)).alloc o3).alloc o4).heap[w.heap.size + 1]? = some (.cells #[.bool false] 4 (0, 0)) := by
  have h : w.heap.size + 1 = (w.alloc o1).heap.size := by simp
  rw [h]
  exact ((((Below.refl _ ((w.alloc o1).alloc (.cells #[.bool false] 4))).alloc (Nat.le_refl _) o3).alloc (by simp) o4).block _ (by simp)).trans (World.alloc_heap_new _ _)
theorem res_cells {W W2 : World} {b6 b7 : Nat} (b2 : Below W.heap.size W W2) (o6 : W.heap[b6]? = some (.cells #[.int .i64 0, .slice none 0 0, .slice none 0 0] 103 (0, 0))) (o7 : W.heap[b7]? = some (.cells #[.bool false] 4 (0, 0))) :
    W2.heap[b6]? = some (.cells #[.int .i64 0, .slice none 0 0, .slice none 0 0] 103 (0, 0)) ∧ W2.heap[b7]? = some (.cells #[.bool false] 4 (0, 0)) ∧ W2.cell? ⟨b6, 0, none⟩ = some (.int .i64 0) ∧ W2.cell? ⟨b6, 1, none⟩ = some (.slice none 0 0) ∧ W2.cell? ⟨b6, 2, none⟩ = some (.slice none 0 0) ∧ W2.cell? ⟨b7, 0, none⟩ = some (.bool false) ∧ W2.frozen? ⟨b6, 0, none⟩ = false ∧ W2.frozen? ⟨b6, 1, none⟩ = false ∧ W2.frozen? ⟨b6, 2, none⟩ = false ∧ W2.frozen? ⟨b7, 0, none⟩ = false ∧ b6 < W2.heap.size ∧ b7 < W2.heap.size := by
  have e6 := (b2.block b6 (Array.getElem?_eq_some_iff.1 o6).1).trans o6
  have e7 := (b2.block b7 (Array.getElem?_eq_some_iff.1 o7).1).trans o7
  exact ⟨e6, e7, by simp [World.cell?, e6], by simp [World.cell?, e6], by simp [World.cell?, e6], by simp [World.cell?, e7], by simp [World.frozen?, e6], by simp [World.frozen?, e6], by simp [World.frozen?, e6], by simp [World.frozen?, e7], (Array.getElem?_eq_some_iff.1 e6).1, (Array.getElem?_eq_some_iff.1 e7).1⟩
theorem steady_cells {β : Type} {B Bi : Nat} (b : Nat) (cur : Array Value) (e : TypeId) (fz : Nat × Nat) (hne : b ≠ Bi) : Steady B Bi (fun (_ : β) W => W.heap[b]? = some (.cells cur e fz)) := fun s W W' row hs hg hr =>
  (hg.block b (Array.getElem?_eq_some_iff.1 hs).1 (fun e => by
    rcases hr b e.symm with h | ⟨_, o, ho, hc⟩
    · exact hne h
    · rw [hs] at ho; cases ho; cases hc)).trans hs
/-- Between two lines: what was kept so far, what is still ahead; all else is as it was. -/
structure RdI (R V ga c base b8 b9 bi : Nat) (W0 : World) (pre : List (List UInt8)) (W : World) : Prop where
  st : ∃ (a : KA) (vr vw va : Value) (us : List (Value × Int)), kpRun R V KA.none pre = some a ∧ KpB W base b9 a.t vr vw a.rs us a.zs ∧ Boxed W b8 45 va ∧ AhdV ga c R V a.i va
  old : ∀ k, k < base → k ≠ b8 → k ≠ b9 → k ≠ bi → W.heap[k]? = W0.heap[k]?
theorem rdi_steady {R V ga c base b8 b9 bi : Nat} {W0 : World} (h8 : b8 < base) (h9 : b9 < base) (hi : bi < base) (h8i : b8 ≠ bi) (h9i : b9 ≠ bi) {α : Type} (f : List α → List (List UInt8)) : Steady base bi (fun pre W => RdI R V ga c base b8 b9 bi W0 (f pre) W) := fun pre W W' row hs hg hr => by
  obtain ⟨⟨a, vr, vw, va, us, h1, h2, h3, h4⟩, h5⟩ := hs
  have hlow : ∀ k, k < base → k ≠ bi → k < W.heap.size → W'.heap[k]? = W.heap[k]? := fun k hk hki hl => hg.block k hl (fun e => by
    rcases hr k e.symm with h | ⟨h, _⟩
    · exact hki h
    · omega)
  have hbs := h2.le
  refine ⟨⟨a, vr, vw, va, us, h1, h2.keep hg.size (hlow b9 h9 h9i (by omega)) (fun k cur e fz hk hc => ?_), (hlow b8 h8 h8i h3.lt).trans h3, h4⟩, fun k hk q1 q2 q3 => (hlow k hk q3 (by omega)).trans (h5 k hk q1 q2 q3)⟩
  refine hg.block k (Array.getElem?_eq_some_iff.1 hc).1 (fun e2 => ?_)
  rcases hr k e2.symm with h | ⟨_, o, ho, hcc⟩
  · omega
  · rw [hc] at ho; cases ho; cases hcc
theorem kp_first (w3 : World) (x y : Value) (t8 ti : TypeId) : KpB (((w3.alloc (.cells #[x] t8)).alloc (.cells #[.int .i64 0, .slice none 0 0, .slice none 0 0] 103)).alloc (.cells #[y] ti)) (w3.heap.size + 3) (w3.heap.size + 1) 0 (.slice none 0 0) (.slice none 0 0) [] [] [] := by
  have e1 : w3.heap.size + 1 = (w3.alloc (.cells #[x] t8)).heap.size := by simp
  have hb : ((w3.alloc (.cells #[x] t8)).alloc (.cells #[.int .i64 0, .slice none 0 0, .slice none 0 0] 103)).heap[w3.heap.size + 1]? = some (.cells #[.int .i64 0, .slice none 0 0, .slice none 0 0] 103 (0, 0)) := by
    rw [e1]
    exact World.alloc_heap_new _ _
  have hb2 : (((w3.alloc (.cells #[x] t8)).alloc (.cells #[.int .i64 0, .slice none 0 0, .slice none 0 0] 103)).alloc (.cells #[y] ti)).heap[w3.heap.size + 1]? = some (.cells #[.int .i64 0, .slice none 0 0, .slice none 0 0] 103 (0, 0)) := (((Below.refl _ _).alloc (Nat.le_refl _) _).block _ (by simp)).trans hb
  have hs : w3.heap.size + 3 ≤ (((w3.alloc (.cells #[x] t8)).alloc (.cells #[.int .i64 0, .slice none 0 0, .slice none 0 0] 103)).alloc (.cells #[y] ti)).heap.size := by simp
  generalize ((w3.alloc (.cells #[x] t8)).alloc (.cells #[.int .i64 0, .slice none 0 0, .slice none 0 0] 103)).alloc (.cells #[y] ti) = W at hb2 hs ⊢
  exact ⟨by simp [World.cell?, hb2], by simp [World.cell?, hb2], by simp [World.cell?, hb2], by simp [World.frozen?, hb2], by simp [World.frozen?, hb2], by simp [World.frozen?, hb2], by omega, hs, World.ownsRow_nil _ _ _ _, World.ownsRow_nil _ _ _ _, rfl, fun i u z hu => (by simp at hu)⟩
/-- What stands there when a line was wrong. -/
def RdX (R V b6 b7 : Nat) (pre : List (List UInt8)) (W : World) : Prop := kpRun R V KA.none pre = none ∧ W.heap[b6]? = some (.cells #[.int .i64 0, .slice none 0 0, .slice none 0 0] 103 (0, 0)) ∧ W.heap[b7]? = some (.cells #[.bool false] 4 (0, 0))
theorem rdx_steady {R V b6 b7 B Bi : Nat} (h6 : b6 ≠ Bi) (h7 : b7 ≠ Bi) {α : Type} (f : List α → List (List UInt8)) : Steady B Bi (fun pre W => RdX R V b6 b7 (f pre) W) := fun _ W W' row hs hg hr =>
  ⟨hs.1, steady_cells (β := Unit) b6 _ _ _ h6 () W W' row hs.2.1 hg hr, steady_cells (β := Unit) b7 _ _ _ h7 () W W' row hs.2.2 hg hr⟩
theorem read_bad {R V base b6 b7 : Nat} {w W W2 : World} {pre : List (List UInt8)} (hk : kpRun R V KA.none pre = none) (hb : Below w.heap.size w W) (hb' : w.heap.size ≤ W.heap.size) (b2 : Below W.heap.size W W2) (e6 : W2.heap[b6]? = some (.cells #[.int .i64 0, .slice none 0 0, .slice none 0 0] 103 (0, 0))) (e7 : W2.heap[b7]? = some (.cells #[.bool false] 4 (0, 0))) (h67 : b6 ≠ b7) (h6 : w.heap.size ≤ b6) (h7 : w.heap.size ≤ b7) :
    KeepsFrom base W ((((W2.setCell ⟨b6, 0, none⟩ (.int .i64 0)).setCell ⟨b6, 1, none⟩ (.slice none 0 0)).setCell ⟨b6, 2, none⟩ (.slice none 0 0)).setCell ⟨b7, 0, none⟩ (.bool false)) ∧ RdX R V b6 b7 pre ((((W2.setCell ⟨b6, 0, none⟩ (.int .i64 0)).setCell ⟨b6, 1, none⟩ (.slice none 0 0)).setCell ⟨b6, 2, none⟩ (.slice none 0 0)).setCell ⟨b7, 0, none⟩ (.bool false)) ∧ Below w.heap.size w ((((W2.setCell ⟨b6, 0, none⟩ (.int .i64 0)).setCell ⟨b6, 1, none⟩ (.slice none 0 0)).setCell ⟨b6, 2, none⟩ (.slice none 0 0)).setCell ⟨b7, 0, none⟩ (.bool false)) ∧ w.heap.size ≤ ((((W2.setCell ⟨b6, 0, none⟩ (.int .i64 0)).setCell ⟨b6, 1, none⟩ (.slice none 0 0)).setCell ⟨b6, 2, none⟩ (.slice none 0 0)).setCell ⟨b7, 0, none⟩ (.bool false)).heap.size := by
  refine ⟨(keepsFrom_below b2).trans (((KeepsOthers.setCell _ _ _).trans ((KeepsOthers.setCell _ _ _).trans ((KeepsOthers.setCell _ _ _).trans (KeepsOthers.setCell _ _ _)))).from _), ⟨hk, ?_, ?_⟩, ?_, ?_⟩
  · rw [Below.heap_setCell _ _ _ _ h67]
    exact cell_one' (cell_one' (cell_one' e6))
  · have h1 : (((W2.setCell ⟨b6, 0, none⟩ (.int .i64 0)).setCell ⟨b6, 1, none⟩ (.slice none 0 0)).setCell ⟨b6, 2, none⟩ (.slice none 0 0)).heap[b7]? = some (.cells #[.bool false] 4 (0, 0)) := by
      rw [Below.heap_setCell _ _ _ _ h67.symm, Below.heap_setCell _ _ _ _ h67.symm, Below.heap_setCell _ _ _ _ h67.symm]
      exact e7
    exact cell_one' h1
  · exact ((((hb.trans (b2.mono hb')).setCell (p := ⟨b6, 0, none⟩) h6 _).setCell (p := ⟨b6, 1, none⟩) h6 _).setCell (p := ⟨b6, 2, none⟩) h6 _).setCell (p := ⟨b7, 0, none⟩) h7 _
  · simp only [World.setCell, Array.size_modify]
    exact Nat.le_trans hb' b2.size
theorem kp_set {W : World} {base b b8 : Nat} {t : Int} {vr vw : Value} {rs : List St} {us : List (Value × Int)} {zs : List (List Int × Int)} (h : KpB W base b t vr vw rs us zs) (h8 : b8 < base) (hne : b8 ≠ b) (x : Value) : KpB (W.setCell ⟨b8, 0, none⟩ x) base b t vr vw rs us zs :=
  h.keep (by simp) (Below.heap_setCell _ _ _ _ (Ne.symm hne)) (fun k _ _ _ hk _ => Below.heap_setCell _ _ _ _ (show k ≠ b8 by omega))
/-- One line more. -/
theorem read_more {R V ga c base b8 b9 bi : Nat} {w W W0 W2 w5 : World} {pre : List (List UInt8)} {l : List UInt8} {a b' : KA} {vr vw va' : Value} {us : List (Value × Int)} {x8 : Value} (hrun : kpRun R V KA.none pre = some a) (hline : kpLine R V a l = some b') (old : ∀ k, k < base → k ≠ b8 → k ≠ b9 → k ≠ bi → W.heap[k]? = W0.heap[k]?) (hb : Below w.heap.size w W) (hb' : w.heap.size ≤ W.heap.size) (b2 : Below W.heap.size W W2) (hbs : base ≤ W.heap.size) (hk : KpB w5 base b9 b'.t vr vw b'.rs us b'.zs) (tk : Tk base b9 W2 w5) (e8 : Boxed w5 b8 45 x8) (hah : AhdV ga c R V b'.i va') (h8 : b8 < base) (hi : bi < base) (h89 : b8 ≠ b9) (h8i : b8 ≠ bi) (h9i : b9 ≠ bi) (h8w : w.heap.size ≤ b8) (h9w : w.heap.size ≤ b9) :
    KeepsFrom base W (w5.setCell ⟨b8, 0, none⟩ va') ∧ (∀ k, bi ≤ k → k < bi + 1 → (w5.setCell ⟨b8, 0, none⟩ va').heap[k]? = W.heap[k]?) ∧ RdI R V ga c base b8 b9 bi W0 (pre ++ [l]) (w5.setCell ⟨b8, 0, none⟩ va') ∧ Below w.heap.size w (w5.setCell ⟨b8, 0, none⟩ va') ∧ w.heap.size ≤ (w5.setCell ⟨b8, 0, none⟩ va').heap.size := by
  have hold : ∀ k, k < base → k ≠ b8 → k ≠ b9 → (w5.setCell ⟨b8, 0, none⟩ va').heap[k]? = W.heap[k]? := fun k h1 h2 h3 => (Below.heap_setCell _ _ _ _ h2).trans ((tk.blk k h1 h3).trans (b2.block k (by omega)))
  have hsz : w.heap.size ≤ w5.heap.size := Nat.le_trans hb' (Nat.le_trans b2.size tk.low.size)
  refine ⟨((keepsFrom_below b2).trans (tk.others.from _)).trans ((KeepsOthers.setCell _ _ _).from _), fun k q1 q2 => hold k (by omega) (by omega) (by omega), ⟨⟨b', vr, vw, va', us, by rw [kpRun_snoc hrun]; exact hline, kp_set hk h8 h89 _, Boxed.set _ e8, hah⟩, fun k q1 q2 q3 q4 => (hold k q1 q2 q3).trans (old k q1 q2 q3 q4)⟩, ?_, by simpa using hsz⟩
  exact ((hb.trans (b2.mono hb')).trans (tk.low.mono h9w)).setCell (p := ⟨b8, 0, none⟩) h8w _
/-- What was read is handed out. -/
theorem read_end {base b9 b6 b7 D : Nat} {w W : World} {t : Int} {vr vw : Value} {rs : List St} {us : List (Value × Int)} {zs : List (List Int × Int)} (ok : Bool) (hk : KpB W base b9 t vr vw rs us zs) (hb : Below w.heap.size w W) (hb' : w.heap.size ≤ W.heap.size) (e6 : W.heap[b6]? = some (.cells #[.int .i64 0, .slice none 0 0, .slice none 0 0] 103 (0, 0))) (e7 : W.heap[b7]? = some (.cells #[.bool false] 4 (0, 0))) (hK : W.heap[D]? = some (.deferred (some []))) (h67 : b6 ≠ b7) (h6 : w.heap.size ≤ b6) (h7 : w.heap.size ≤ b7) (h69 : b6 ≠ b9) (h79 : b7 ≠ b9) (h6b : b6 < base) (h7b : b7 < base) (hD : base ≤ D) :
    let W4 := (((((W.setCell ⟨b6, 0, none⟩ (.int .i64 t)).setCell ⟨b6, 1, none⟩ vr).setCell ⟨b6, 2, none⟩ vw).setCell ⟨b7, 0, none⟩ (.bool ok))).drew
    W4.heap[D]? = some (.deferred (some [])) ∧ Below w.heap.size w W4 ∧ W4.heap[b6]? = some (.cells #[.int .i64 t, vr, vw] 103 (0, 0)) ∧ W4.heap[b7]? = some (.cells #[.bool ok] 4 (0, 0)) ∧ KpB W4 base b9 t vr vw rs us zs ∧ w.heap.size ≤ W4.heap.size := by
  intro W4
  have hsame : ∀ k, k ≠ b6 → k ≠ b7 → W4.heap[k]? = W.heap[k]? := fun k q1 q2 => by
    show (World.setCell _ _ _).heap[k]? = _
    rw [Below.heap_setCell _ _ _ _ q2, Below.heap_setCell _ _ _ _ q1, Below.heap_setCell _ _ _ _ q1, Below.heap_setCell _ _ _ _ q1]
  have hsz : W4.heap.size = W.heap.size := by show (World.setCell _ _ _).heap.size = _; simp
  have hDk : D ≠ b6 ∧ D ≠ b7 := ⟨by omega, by omega⟩
  refine ⟨(hsame D hDk.1 hDk.2).trans hK, ?_, ?_, ?_, hk.keep (by rw [hsz]; exact Nat.le_refl _) (hsame b9 h69.symm h79.symm) (fun k _ _ _ hbk _ => hsame k (by omega) (by omega)), by rw [hsz]; exact hb'⟩
  · exact ((((hb.setCell (p := ⟨b6, 0, none⟩) h6 _).setCell (p := ⟨b6, 1, none⟩) h6 _).setCell (p := ⟨b6, 2, none⟩) h6 _).setCell (p := ⟨b7, 0, none⟩) h7 _).drew
  · show (World.setCell _ _ _).heap[b6]? = _
    rw [Below.heap_setCell _ _ _ _ h67]
    exact cell_one' (cell_one' (cell_one' e6))
  · have h1 : (((W.setCell ⟨b6, 0, none⟩ (.int .i64 t)).setCell ⟨b6, 1, none⟩ vr).setCell ⟨b6, 2, none⟩ vw).heap[b7]? = some (.cells #[.bool false] 4 (0, 0)) := by
      rw [Below.heap_setCell _ _ _ _ h67.symm, Below.heap_setCell _ _ _ _ h67.symm, Below.heap_setCell _ _ _ _ h67.symm]
      exact e7
    exact cell_one' h1
theorem kp_put {W : World} {base b D : Nat} {t : Int} {vr vw : Value} {rs : List St} {us : List (Value × Int)} {zs : List (List Int × Int)} {o : Obj} (h : KpB W base b t vr vw rs us zs) (hK : W.heap[D]? = some (.deferred (some []))) (hD : base ≤ D) : KpB (W.putObj D o) base b t vr vw rs us zs := by
  have hg := grownBy_putObj' W D o
  refine h.keep hg.size (hg.block b (Nat.lt_of_lt_of_le h.lt h.le) (fun e => by cases e; have := h.lt; omega)) (fun k cur e fz hk hc => hg.block k (Array.getElem?_eq_some_iff.1 hc).1 (fun e2 => ?_))
  cases e2
  rw [hc] at hK
  cases hK
theorem kpRun_bad {R V : Nat} {a : KA} {ls : List (List UInt8)} {l : List UInt8} (h : kpRun R V KA.none ls = some a) (hl : kpLine R V a l = none) : kpRun R V KA.none (ls ++ [l]) = none := by rw [kpRun_snoc h, hl]
theorem kpRun_badApp {R V : Nat} {ls ms : List (List UInt8)} (h : kpRun R V KA.none ls = none) : kpRun R V KA.none (ls ++ ms) = none := by rw [kpRun_app, h]; rfl
theorem kpLine_none {R V : Nat} {a : KA} {l : List UInt8} (h : read7B l = none) : kpLine R V a l = none := by unfold kpLine; rw [h]
theorem kpLine_word {R V : Nat} {a : KA} {l w : List UInt8} {ns : List Int} (h : read7B l = some (w, ns)) (hw : kpWord R V a.i ≠ some w) : kpLine R V a l = none := by unfold kpLine; rw [h]; simp only; rw [if_neg hw]
theorem kpLine_take {R V : Nat} {a : KA} {l w : List UInt8} {ns : List Int} (h : read7B l = some (w, ns)) (hw : kpWord R V a.i = some w) : kpLine R V a l = kpTake R a ns := by unfold kpLine; rw [h]; simp only; rw [if_pos hw]
theorem kpWord_end {R V i : Nat} (h : i ≤ 1 + R + V) : kpWord R V i = none ↔ i = 1 + R + V := by
  unfold kpWord
  constructor
  · intro hw
    split at hw
    · cases hw
    · split at hw
      · cases hw
      · split at hw
        · cases hw
        · omega
  · intro e
    rw [if_neg (by omega), if_neg (by omega), if_neg (by omega)]
end Go.Proofs.YtajfgmlockjmhaiGreatDoor
