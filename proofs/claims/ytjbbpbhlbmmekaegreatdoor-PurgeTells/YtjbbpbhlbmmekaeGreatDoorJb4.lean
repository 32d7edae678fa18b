/-
  PrgCP, PrgC, PTells0, RPurge, StRow, StL, SgtCR, Same, RefWays, WaysL: joined into one text.
-/
import Derived.Test.YtjbbpbhlbmmekaeGreatDoorJb3
import Derived.Test.YtjbbpbhlbmmekaeGreatDoorJb2
import Derived.RangeFuncRecord
import Derived.Deep.RegionLaw
import Derived.Deep.CutRange
import Derived.Deep.RegionWith
import Derived.BigQuiet
import Derived.Deep.QuietTactic
import Derived.Laws.StructEq
import Derived.WalkSmall
import Derived.Test.YtjbbpbhlbmmekaeGreatDoorJb1
import Derived.Deep.MidRow
namespace Go.Proofs.YtjbbpbhlbmmekaeGreatDoor
open Go.RowKit

/-- No plan. -/
def noPlan : PD := ⟨[], 0, [], []⟩
/-- The plan without those that cannot tell a room. -/
def prgP (p : PD) (r : Int) : PD := if prgE p r = 0 then purgeP p (fun i => way p.wires i r.toNat) else noPlan
def PrgPurge (G : World → Prop) : Prop := ∀ (p : PD) (vc vs vw : Value) (r : Int) (W : World), G W → Pln W vc vs vw p → Calls Tryz.prog 6 #[plV vc p.ticks vs vw, .int .i64 r] W fun e w' => ∃ ic is iw, e = .returned (.tuple #[plV ic (prgP p r).ticks is iw, wErr (prgE p r)]) ∧ Pln w' ic is iw (prgP p r) ∧ Below W.heap.size W w'
end Go.Proofs.YtjbbpbhlbmmekaeGreatDoor
namespace Go.Proofs.YtjbbpbhlbmmekaeGreatDoor
open Go.RowKit

/-- Do two states look the same? -/
def likeS (s t : St) : Bool := decide (s.p = t.p) && (decide (s.c 0 = t.c 0) && (decide (s.c 1 = t.c 1) && (decide (s.c 2 = t.c 2) && (decide (s.c 3 = t.c 3) && (decide (s.c 4 = t.c 4) && (decide (s.c 5 = t.c 5) && (s.f == t.f)))))))
theorem likeS_refl (s : St) : likeS s s = true := by simp [likeS]
/-- What is wrong where two are held against each other. -/
def likeE (p q : PD) (n r : Int) : Int := if plchk p = 0 then (if plchk q = 0 then (if r < 0 ∨ (p.code.length : Int) ≤ r ∨ (q.code.length : Int) ≤ r ∨ n < 0 ∨ 2000 < n then 1 else 0) else plchk q) else plchk p
/-- The first place at which two rows of states part; -1: none. -/
def partAt : List St → List St → Nat → Int
  | s :: l, t :: m, i => if likeS s t = true then partAt l m (i + 1) else (i : Int)
  | _, _, _ => -1
theorem partAt_same : ∀ (l : List St) (i : Nat), partAt l l i = -1
  | [], _ => rfl
  | s :: l, i => by
    rw [partAt, if_pos (likeS_refl s)]
    exact partAt_same l (i + 1)
def likeAt (p q : PD) (n r : Int) : Int := if likeE p q n r = 0 then partAt (statesK p n.toNat r.toNat) (statesK q n.toNat r.toNat) 0 else 0
def PrgSame (G : World → Prop) : Prop := ∀ (p q : PD) (vc vs vw ic is iw : Value) (n r : Int) (W : World), G W → Pln W vc vs vw p → Pln W ic is iw q → Calls Tryz.prog 10 #[plV vc p.ticks vs vw, plV ic q.ticks is iw, .int .i64 n, .int .i64 r] W fun e w' => e = .returned (.tuple #[.int .i64 (likeAt p q n r), wErr (likeE p q n r)]) ∧ Below W.heap.size W w'
/-- WHO CANNOT TELL DOES NOT MATTER, as package purge tells it. -/
theorem like_purged {p : PD} {n r : Int} (hz : prgE p r = 0) (hn : 0 ≤ n) (hn2 : n ≤ 400) : likeE p (prgP p r) n r = 0 ∧ likeAt p (prgP p r) n r = -1 ∧ plchk (prgP p r) = 0 := by
  have hq : prgP p r = purgeP p (fun i => way p.wires i r.toNat) := by
    unfold prgP
    rw [if_pos hz]
  have hpp : plchk p = 0 ∧ 0 ≤ r ∧ r < (p.code.length : Int) := by
    unfold prgE at hz
    split at hz
    · rename_i h1
      split at hz
      · omega
      · exact ⟨h1, by omega, by omega⟩
    · omega
  have hr := purge_right (fun i => way p.wires i r.toNat) hpp.1
  have he : likeE p (prgP p r) n r = 0 := by
    have hl : ((prgP p r).code.length : Int) = p.code.length := by
      rw [hq]
      show ((purgeC _ 0 p.code).length : Int) = _
      rw [purgeC_len]
    unfold likeE
    rw [if_pos hpp.1, hl, hq, if_pos hr, if_neg (by omega)]
  refine ⟨he, ?_, by rw [hq]; exact hr⟩
  unfold likeAt
  rw [if_pos he, hq, purge_states hpp.1]
  exact partAt_same _ _
end Go.Proofs.YtjbbpbhlbmmekaeGreatDoor
namespace Go.Proofs.YtjbbpbhlbmmekaeGreatDoor
open Go.RowKit

/-- Behind the boxes of two plans. -/
def Bxt (w W : World) (pc : Value) (pn : Int) (ps pw qc : Value) (qn : Int) (qs qw : Value) : Prop := Below (w.heap.size + 2) ((w.alloc (.cells #[pc, .int .i64 pn, ps, pw] 26)).alloc (.cells #[qc, .int .i64 qn, qs, qw] 26)) W
section
variable {w W : World} {pc ps pw qc qs qw : Value} {pn qn : Int}
theorem Bxt.first (w : World) (pc : Value) (pn : Int) (ps pw qc : Value) (qn : Int) (qs qw : Value) : Bxt w ((w.alloc (.cells #[pc, .int .i64 pn, ps, pw] 26)).alloc (.cells #[qc, .int .i64 qn, qs, qw] 26)) pc pn ps pw qc qn qs qw := Below.refl _ _
theorem Bxt.size (h : Bxt w W pc pn ps pw qc qn qs qw) : w.heap.size + 2 ≤ W.heap.size := by
  have := Below.size h
  simpa using this
theorem Bxt.step {W' : World} (h : Bxt w W pc pn ps pw qc qn qs qw) (hb : Below W.heap.size W W') : Bxt w W' pc pn ps pw qc qn qs qw := Below.trans h (hb.mono h.size)
theorem Bxt.set {W' : World} (h : Bxt w W pc pn ps pw qc qn qs qw) {M : List Nat} (hb : KTouch M W W') (hM : ∀ m ∈ M, w.heap.size + 2 ≤ m) : Bxt w W' pc pn ps pw qc qn qs qw := Below.trans h (hb.below hM h.size)
theorem Bxt.below (h : Bxt w W pc pn ps pw qc qn qs qw) : Below w.heap.size w W := (((Below.refl _ _).alloc (Nat.le_refl _) _).alloc (by simp) _).trans (Below.mono h (Nat.le_add_right _ _))
theorem Bxt.cs (h : Bxt w W pc pn ps pw qc qn qs qw) : W.cell? ⟨w.heap.size, 0, none⟩ = some pc ∧ W.cell? ⟨w.heap.size, 1, none⟩ = some (.int .i64 pn) ∧ W.cell? ⟨w.heap.size, 2, none⟩ = some ps ∧ W.cell? ⟨w.heap.size, 3, none⟩ = some pw :=
  ⟨(Below.cell h (p := ⟨w.heap.size, 0, none⟩) (by simp)).trans (by simp), (Below.cell h (p := ⟨w.heap.size, 1, none⟩) (by simp)).trans (by simp), (Below.cell h (p := ⟨w.heap.size, 2, none⟩) (by simp)).trans (by simp), (Below.cell h (p := ⟨w.heap.size, 3, none⟩) (by simp)).trans (by simp)⟩
theorem Bxt.ds (h : Bxt w W pc pn ps pw qc qn qs qw) : W.cell? ⟨w.heap.size + 1, 0, none⟩ = some qc ∧ W.cell? ⟨w.heap.size + 1, 1, none⟩ = some (.int .i64 qn) ∧ W.cell? ⟨w.heap.size + 1, 2, none⟩ = some qs ∧ W.cell? ⟨w.heap.size + 1, 3, none⟩ = some qw :=
  ⟨(Below.cell h (p := ⟨w.heap.size + 1, 0, none⟩) (by simp)).trans (by simp), (Below.cell h (p := ⟨w.heap.size + 1, 1, none⟩) (by simp)).trans (by simp), (Below.cell h (p := ⟨w.heap.size + 1, 2, none⟩) (by simp)).trans (by simp), (Below.cell h (p := ⟨w.heap.size + 1, 3, none⟩) (by simp)).trans (by simp)⟩
end
/-- From behind: one state more. -/
theorem partAt_drop {l m : List St} {j : Nat} {s t : St} (hl : l[j]? = some s) (hm : m[j]? = some t) : partAt (l.drop j) (m.drop j) j = if likeS s t = true then partAt (l.drop (j + 1)) (m.drop (j + 1)) (j + 1) else (j : Int) := by
  obtain ⟨h1, rfl⟩ := List.getElem?_eq_some_iff.1 hl
  obtain ⟨h2, rfl⟩ := List.getElem?_eq_some_iff.1 hm
  rw [List.drop_eq_getElem_cons h1, List.drop_eq_getElem_cons h2, partAt]
theorem partAt_end {l m : List St} {j : Nat} (hl : l.length ≤ j) : partAt (l.drop j) (m.drop j) j = -1 := by
  rw [List.drop_eq_nil_of_le hl]
  cases m.drop j <;> rfl
/-- What the law does with its n. -/
def nnP (n : Int) : Int := if 200 < n ∧ n ≤ 2000 then n % 200 else n
def badL (p q : PD) (n r : Int) : Prop := r < 0 ∨ (p.code.length : Int) ≤ r ∨ (q.code.length : Int) ≤ r ∨ n < 0 ∨ 2000 < n
instance (p q : PD) (n r : Int) : Decidable (badL p q n r) := by unfold badL; infer_instance
/-- What is wrong with two plans. -/
def twoE (p q : PD) : Int := if plchk p = 0 then plchk q else plchk p
theorem likeE_two (p q : PD) (n r : Int) : likeE p q n r = if twoE p q = 0 ∧ badL p q n r then 1 else twoE p q := by
  unfold likeE twoE badL
  by_cases h : plchk p = 0
  · by_cases h2 : plchk q = 0
    · rw [if_pos h, if_pos h2, if_pos h, h2]
      by_cases h3 : r < 0 ∨ (p.code.length : Int) ≤ r ∨ (q.code.length : Int) ≤ r ∨ n < 0 ∨ 2000 < n
      · rw [if_pos h3, if_pos ⟨rfl, h3⟩]
      · rw [if_neg h3, if_neg (fun e => h3 e.2)]
    · rw [if_pos h, if_neg h2, if_pos h, if_neg (fun e => h2 e.1)]
  · rw [if_neg h, if_neg h, if_neg (fun e => h e.1)]
theorem likeE_zero {p q : PD} {n r : Int} (h : likeE p q n r = 0) : plchk p = 0 ∧ plchk q = 0 ∧ 0 ≤ r ∧ r < (p.code.length : Int) ∧ r < (q.code.length : Int) ∧ 0 ≤ n ∧ n ≤ 2000 := by
  unfold likeE at h
  split at h
  · rename_i h1
    split at h
    · rename_i h2
      split at h
      · omega
      · exact ⟨h1, h2, by omega, by omega, by omega, by omega, by omega⟩
    · omega
  · omega
end Go.Proofs.YtjbbpbhlbmmekaeGreatDoor
namespace Go.Proofs.YtjbbpbhlbmmekaeGreatDoor
open Go.RowKit

/-- The plan is being made: codes so far. -/
structure QP (b0 : Nat) (w1 W : World) (p : PD) (R : Nat → Bool) (kb : Nat) (vs vw cv : Value) (us : List Value) : Prop where
  tk : KTouch [kb] w1 W
  kl : kb < w1.heap.size
  k0 : b0 ≤ kb
  blk : W.heap[kb]? = some (.cells #[cv, .int .i64 p.ticks, vs, vw] 26 (0, 0))
  own : W.ownsRow w1.heap.size 51 1 cv us.length us
  ops : ∀ (i : Nat) u c, us[i]? = some u → p.code[i]? = some c → Ops W u (if R i = true then c else restC)
  ap : ∀ u ∈ us, ∀ g, u.ownBlock = some g → (g < b0 ∨ w1.heap.size ≤ g) ∧ g < W.heap.size ∧ cv.ownBlock ≠ some g
  len : us.length ≤ p.code.length
theorem QP.cs {b0 : Nat} {w1 W : World} {p : PD} {R : Nat → Bool} {kb : Nat} {vs vw cv : Value} {us : List Value} (h : QP b0 w1 W p R kb vs vw cv us) : W.cell? ⟨kb, 0, none⟩ = some cv ∧ W.cell? ⟨kb, 1, none⟩ = some (.int .i64 p.ticks) ∧ W.cell? ⟨kb, 2, none⟩ = some vs ∧ W.cell? ⟨kb, 3, none⟩ = some vw ∧ W.frozen? ⟨kb, 0, none⟩ = false := by
  have e := h.blk
  simp [World.cell?, World.frozen?, e]
/-- One code more: one of the plan's, or one that rests. -/
theorem QP.more {b0 : Nat} {w1 W w2 wa : World} {p : PD} {R : Nat → Bool} {kb : Nat} {vs vw cv cv' u : Value} {us : List Value} {c : List O3} (h : QP b0 w1 W p R kb vs vw cv us) (hc : p.code[us.length]? = some c) (b2 : Below W.heap.size W w2) (hu : Ops w2 u (if R us.length = true then c else restC))
    (hua : ∀ g, u.ownBlock = some g → (g < b0 ∨ W.heap.size ≤ g) ∧ g < w2.heap.size)
    (hg : (w2.alloc (.cells #[u] 51)).grownBy wa cv.ownBlock) (hown : wa.ownsRow w1.heap.size 51 1 cv' (us.length + 1) (us ++ [u])) (hnew : ∀ g, cv'.ownBlock = some g → cv.ownBlock = some g ∨ w2.heap.size + 1 ≤ g) : QP b0 w1 (wa.setCell ⟨kb, 0, none⟩ cv') p R kb vs vw cv' (us ++ [u]) := by
  have b3 : Below W.heap.size W (w2.alloc (.cells #[u] 51)) := b2.alloc b2.size _
  have hs3 : (w2.alloc (.cells #[u] 51)).heap.size = w2.heap.size + 1 := by simp
  have hs := h.tk.size
  have hs2 := b2.size
  have hga := hg.size
  rw [hs3] at hga
  have hkl := h.kl
  have hk0 := h.k0
  have hcr : ∀ k, cv.ownBlock = some k → w1.heap.size ≤ k ∧ k < W.heap.size := fun k hk => h.own.lt k hk
  have hset : ∀ k, k ≠ kb → (wa.setCell ⟨kb, 0, none⟩ cv').heap[k]? = wa.heap[k]? := fun k hk => Below.heap_setCell _ _ _ _ hk
  have hsz2 : (wa.setCell ⟨kb, 0, none⟩ cv').heap.size = wa.heap.size := by simp
  have hold : ∀ k, k < w2.heap.size → k ≠ kb → cv.ownBlock ≠ some k → (wa.setCell ⟨kb, 0, none⟩ cv').heap[k]? = w2.heap[k]? := fun k h2 h3 h4 => (hset k h3).trans ((hg.block k (by rw [hs3]; omega) (fun e => h4 e.symm)).trans (((Below.refl _ w2).alloc (Nat.le_refl _) _).block k h2))
  have hune : ∀ g, u.ownBlock = some g → g ≠ kb ∧ cv.ownBlock ≠ some g := fun g hg' => by
    obtain ⟨h1, _⟩ := hua g hg'
    refine ⟨by omega, fun e => ?_⟩
    have := hcr g e
    omega
  refine ⟨⟨(hg.os.trans (b3.os.trans h.tk.os)), (hg.tape.trans (b3.tape.trans h.tk.tape)), (hg.output.trans (b3.output.trans h.tk.output)), by omega, fun k hk hm => ?_⟩, h.kl, h.k0, ?_, ?_, fun i x d hx hd => ?_, fun x hx g hgx => ?_, ?_⟩
  · have hkk : k ≠ kb := fun e => hm (by simp [e])
    refine (hset k hkk).trans ((hg.block k (by rw [hs3]; omega) (fun e => ?_)).trans ((b3.block k (by omega)).trans (h.tk.block k hk hm)))
    have := (hcr k e.symm).1
    omega
  · have hlt : kb < W.heap.size := by omega
    have e : wa.heap[kb]? = some (.cells #[cv, .int .i64 p.ticks, vs, vw] 26 (0, 0)) := (hg.block kb (by rw [hs3]; omega) (fun e => by have := (hcr kb e.symm).1; omega)).trans ((b3.block kb hlt).trans h.blk)
    simp [World.setCell, Array.getElem?_modify, e]
  · rw [List.length_append]
    exact ownsRow_setCell_below hown (a := ⟨kb, 0, none⟩) h.kl cv'
  · by_cases hi : i < us.length
    · rw [List.getElem?_append_left hi] at hx
      have ho := h.ops i x d hx hd
      refine (ho.all b2).block (fun k hk he => ?_) (by omega)
      obtain ⟨h1, h2, h3⟩ := h.ap x (List.mem_of_getElem? hx) k he
      exact hold k hk (by omega) h3
    · have hlt := (List.getElem?_eq_some_iff.1 hx).1
      rw [List.length_append, List.length_singleton] at hlt
      obtain rfl : i = us.length := by omega
      rw [List.getElem?_append_right (Nat.le_refl _), Nat.sub_self] at hx
      simp only [List.getElem?_cons_zero, Option.some.injEq] at hx
      subst hx
      rw [hc] at hd
      obtain rfl := Option.some.inj hd
      exact hu.block (fun k hk he => hold k hk (hune k he).1 (hune k he).2) (by omega)
  · rcases List.mem_append.1 hx with h1 | h1
    · obtain ⟨h2, h3, h4⟩ := h.ap x h1 g hgx
      refine ⟨h2, by omega, fun e => ?_⟩
      rcases hnew g e with h5 | h5
      · exact h4 h5
      · omega
    · rw [List.mem_singleton] at h1
      subst h1
      obtain ⟨h2, h3⟩ := hua g hgx
      refine ⟨by omega, by omega, fun e => ?_⟩
      rcases hnew g e with h5 | h5
      · exact (hune g hgx).2 h5
      · omega
  · rw [List.length_append, List.length_singleton]
    exact (List.getElem?_eq_some_iff.1 hc).1
/-- All of them, read elsewhere than in two blocks of the caller's. -/
theorem QP.cds {b0 : Nat} {w1 W W' : World} {p : PD} {R : Nat → Bool} {kb : Nat} {vs vw cv : Value} {us : List Value} (h : QP b0 w1 W p R kb vs vw cv us) (hl : us.length = p.code.length) {M : List Nat} (ht : KTouch M W W') (hM : ∀ m ∈ M, b0 ≤ m ∧ m < w1.heap.size) : Cds W' cv (purgeC R 0 p.code) := by
  have hrl := h.own.lt
  have hcs := @World.ownsRow.cells _ _ _ _ _ _ _ h.own
  have hlen : (purgeC R 0 p.code).length = us.length := by rw [purgeC_len, hl]
  rcases h.own.2 with ⟨rfl, h0⟩ | ⟨g, cap, cur, rfl, hge, _, hcap, _⟩
  · exact Or.inl ⟨List.eq_nil_of_length_eq_zero (by rw [hlen]; exact h0), _, _, rfl⟩
  · refine Or.inr ⟨g, 0, cap, by rw [hlen], by rw [hlen]; exact hcap, Nat.lt_of_lt_of_le (hrl g rfl).2 ht.size, fun i d hd => ?_⟩
    rw [purgeC_at] at hd
    obtain ⟨c, hc, hcd⟩ := Option.map_eq_some_iff.1 hd
    have hil : i < us.length := by rw [hl]; exact (List.getElem?_eq_some_iff.1 hc).1
    have hu : us[i]? = some us[i] := List.getElem?_eq_getElem hil
    have hcell := hcs rfl i _ hu
    rw [Addr.add_lit] at hcell
    refine ⟨us[i], (World.cell?_of_block (w := W) (a := ⟨g, _, none⟩) (ht.block g (hrl g rfl).2 (fun hm => ?_))).trans hcell, ?_⟩
    · have := (hM g hm).2
      omega
    · rw [← hcd, Nat.zero_add]
      refine (h.ops i _ c hu hc).block (fun k hk he => ht.block k hk (fun hm => ?_)) ht.size
      obtain ⟨h1, _, _⟩ := h.ap _ (List.mem_of_getElem? hu) k he
      have := hM k hm
      omega
theorem rest_ops {w : World} {k : Nat} (hk : k = w.heap.size) : Ops (w.alloc (.cells #[.int .i64 10, .int .i64 0, .int .i64 0] 58)) (.slice (some ⟨k, 0, none⟩) 1 1) restC := by
  subst hk
  refine Or.inr ⟨w.heap.size, 0, 1, rfl, by simp, fun i o ho => ?_⟩
  match i, ho with
  | 0, ho => simp [restC] at ho; subst ho; simp [go_sem]
  | i + 1, ho => simp [restC] at ho
end Go.Proofs.YtjbbpbhlbmmekaeGreatDoor
namespace Go.Proofs.YtjbbpbhlbmmekaeGreatDoor
open Go.RowKit

/-- States as cells. -/
def stCells (l : List St) : List Value := l.flatMap fun s => [.int .i64 s.p, .int .i64 (s.c 0), .int .i64 (s.c 1), .int .i64 (s.c 2), .int .i64 (s.c 3), .int .i64 (s.c 4), .int .i64 (s.c 5), .bool s.f]
theorem stCells_snoc (l : List St) (s : St) : stCells (l ++ [s]) = stCells l ++ [.int .i64 s.p, .int .i64 (s.c 0), .int .i64 (s.c 1), .int .i64 (s.c 2), .int .i64 (s.c 3), .int .i64 (s.c 4), .int .i64 (s.c 5), .bool s.f] := by simp [stCells]
theorem stCells_at : ∀ (l : List St) (i : Nat) (s : St), l[i]? = some s → (stCells l)[i * 8]? = some (.int .i64 s.p) ∧ (stCells l)[i * 8 + 1]? = some (.int .i64 (s.c 0)) ∧ (stCells l)[i * 8 + 2]? = some (.int .i64 (s.c 1)) ∧ (stCells l)[i * 8 + 3]? = some (.int .i64 (s.c 2)) ∧ (stCells l)[i * 8 + 4]? = some (.int .i64 (s.c 3)) ∧ (stCells l)[i * 8 + 5]? = some (.int .i64 (s.c 4)) ∧ (stCells l)[i * 8 + 6]? = some (.int .i64 (s.c 5)) ∧ (stCells l)[i * 8 + 7]? = some (.bool s.f)
  | [], i, s, h => by simp at h
  | x :: l, 0, s, h => by simp at h; subst h; simp [stCells]
  | x :: l, i + 1, s, h => by
    have h1 := stCells_at l i s (by simpa using h)
    have e : ∀ j, (stCells (x :: l))[(i + 1) * 8 + j]? = (stCells l)[i * 8 + j]? := fun j => by
      show ([.int .i64 x.p, .int .i64 (x.c 0), .int .i64 (x.c 1), .int .i64 (x.c 2), .int .i64 (x.c 3), .int .i64 (x.c 4), .int .i64 (x.c 5), .bool x.f] ++ stCells l)[(i + 1) * 8 + j]? = _
      rw [List.getElem?_append_right (by simp; omega)]
      congr 1
      simp
      omega
    exact ⟨(e 0).trans h1.1, (e 1).trans h1.2.1, (e 2).trans h1.2.2.1, (e 3).trans h1.2.2.2.1, (e 4).trans h1.2.2.2.2.1, (e 5).trans h1.2.2.2.2.2.1, (e 6).trans h1.2.2.2.2.2.2.1, (e 7).trans h1.2.2.2.2.2.2.2⟩
theorem st_one (s : St) : ∀ u ∈ [Value.int .i64 s.p, .int .i64 (s.c 0), .int .i64 (s.c 1), .int .i64 (s.c 2), .int .i64 (s.c 3), .int .i64 (s.c 4), .int .i64 (s.c 5), .bool s.f], u.oneCell' = true := by
  intro u hu
  simp only [List.mem_cons, List.not_mem_nil, or_false] at hu
  rcases hu with rfl | rfl | rfl | rfl | rfl | rfl | rfl | rfl <;> rfl
theorem st_new {w : World} {k : Nat} (hk : k = w.heap.size) (s : St) (t : TypeId) : ∀ j u, [Value.int .i64 s.p, .int .i64 (s.c 0), .int .i64 (s.c 1), .int .i64 (s.c 2), .int .i64 (s.c 3), .int .i64 (s.c 4), .int .i64 (s.c 5), .bool s.f][j]? = some u → (w.alloc (.cells #[.int .i64 s.p, .int .i64 (s.c 0), .int .i64 (s.c 1), .int .i64 (s.c 2), .int .i64 (s.c 3), .int .i64 (s.c 4), .int .i64 (s.c 5), .bool s.f] t)).cell? ((⟨k, 0, none⟩ : Addr).add j) = some u := by
  intro j u hj
  subst hk
  rw [Addr.add_lit, Nat.zero_add]
  match j, hj with
  | 0, hj => simp at hj; subst hj; simp
  | 1, hj => simp at hj; subst hj; simp
  | 2, hj => simp at hj; subst hj; simp
  | 3, hj => simp at hj; subst hj; simp
  | 4, hj => simp at hj; subst hj; simp
  | 5, hj => simp at hj; subst hj; simp
  | 6, hj => simp at hj; subst hj; simp
  | 7, hj => simp at hj; subst hj; simp
  | j + 8, hj => simp at hj
theorem infoSt : (Tryz.prog.info? 39).map (fun i => (i.zero, i.size, i.bytes)) = some (some (.agg #[.int .i64 0, .int .i64 0, .int .i64 0, .int .i64 0, .int .i64 0, .int .i64 0, .int .i64 0, .bool false]), 8, 64) := by kernel_rfl
end Go.Proofs.YtjbbpbhlbmmekaeGreatDoor
namespace Go.Proofs.YtjbbpbhlbmmekaeGreatDoor
open Go.RowKit

/-- States in a row that can be read. -/
def StL (w : World) (v : Value) (l : List St) : Prop :=
  (l = [] ∧ ∃ ao cap, v = .slice ao 0 cap) ∨ ∃ b off cap, v = .slice (some ⟨b, off, none⟩) l.length cap ∧ l.length ≤ cap ∧ b < w.heap.size ∧ ∀ (i : Nat) s, l[i]? = some s → StC w b (off + i * 8) s
theorem StL.form {w : World} {v : Value} {l : List St} (h : StL w v l) : ∃ ao cap, v = .slice ao l.length cap := by
  rcases h with ⟨rfl, ao, cap, rfl⟩ | ⟨b, off, cap, rfl, _⟩
  · exact ⟨ao, cap, rfl⟩
  · exact ⟨_, cap, rfl⟩
theorem StL.all {w w' : World} {v : Value} {l : List St} (h : StL w v l) (hb : Below w.heap.size w w') : StL w' v l := by
  rcases h with h | ⟨b, off, cap, rfl, hcap, hlt, hc⟩
  · exact Or.inl h
  · exact Or.inr ⟨b, off, cap, rfl, hcap, Nat.lt_of_lt_of_le hlt hb.size, fun i s hi => (hc i s hi).block (hb.block b hlt)⟩
theorem StL.own {w : World} {base : Nat} {v : Value} {l : List St} (h : w.ownsRow base 39 8 v l.length (stCells l)) : StL w v l := by
  have hl := h.lt
  have hcs := @World.ownsRow.cells _ _ _ _ _ _ _ h
  rcases h.2 with ⟨rfl, h0⟩ | ⟨g, cap, cur, rfl, _, _, hcap, _⟩
  · exact Or.inl ⟨List.eq_nil_of_length_eq_zero h0, _, _, rfl⟩
  · have hat : ∀ j u, (stCells l)[j]? = some u → w.cell? ⟨g, j, none⟩ = some u := fun j u hu => by
      have := hcs rfl j u hu
      rwa [Addr.add_lit, Nat.zero_add] at this
    refine Or.inr ⟨g, 0, cap, rfl, hcap, (hl g rfl).2, fun i s hs => ?_⟩
    obtain ⟨q0, q1, q2, q3, q4, q5, q6, q7⟩ := stCells_at l i s hs
    rw [Nat.zero_add]
    exact ⟨hat _ _ q0, hat _ _ q1, hat _ _ q2, hat _ _ q3, hat _ _ q4, hat _ _ q5, hat _ _ q6, hat _ _ q7⟩
end Go.Proofs.YtjbbpbhlbmmekaeGreatDoor
namespace Go.Proofs.YtjbbpbhlbmmekaeGreatDoor
open Go.RowKit

/-- Run: the states of a room of a new kernel. -/
def SgtRun (G : World → Prop) : Prop := ∀ (p : PD) (vc vs vw : Value) (n r : Int) (W : World), G W → Pln W vc vs vw p → Calls Tryz.prog 26 #[plV vc p.ticks vs vw, .int .i64 n, .int .i64 r] W fun e w' => ∃ v, e = .returned (.tuple #[v, wErr (runE p n r)]) ∧ StL w' v (if runE p n r = 0 then statesK p n.toNat r.toNat else []) ∧ Below W.heap.size W w'
end Go.Proofs.YtjbbpbhlbmmekaeGreatDoor
namespace Go.Proofs.YtjbbpbhlbmmekaeGreatDoor
open Go.RowKit

theorem fieldsOp : Tryz.prog.underlying 58 = some (.struct (Tryz.prog.fieldsOf 58)) := by kernel_rfl
theorem stoodOp : Tryz.prog.stoodInHeld 58 = false := by kernel_rfl
theorem fieldsOpIs : Tryz.prog.fieldsOf 58 = #[{ name := "What", type := 3, offset := 0, embedded := false, tag := "", pkgPath := "", byteOffset := 0 }, { name := "A", type := 3, offset := 1, embedded := false, tag := "", pkgPath := "", byteOffset := 8 }, { name := "B", type := 3, offset := 2, embedded := false, tag := "", pkgPath := "", byteOffset := 16 }] := by kernel_rfl
theorem guardOp : Tryz.prog.eqGuardType Tryz.prog.depth 58 = false := by kernel_rfl
theorem neq_op (x y : O3) (w : World) : (binOp .neq 58 (.agg #[.int .i64 x.1, .int .i64 x.2.1, .int .i64 x.2.2]) (.agg #[.int .i64 y.1, .int .i64 y.2.1, .int .i64 y.2.2])).run Tryz.prog w = .ok (.bool (!(decide (x = y)))) w := by
  rw [run_neq_struct, run_equalIn_agg _ _ _ _ _ fieldsOp stoodOp, fieldsOpIs]
  obtain ⟨a, b, c⟩ := x
  obtain ⟨a', b', c'⟩ := y
  simp [go_sem, Tryz.underlying3]
  by_cases h1 : a = a' <;> by_cases h2 : b = b' <;> by_cases h3 : c = c' <;> simp [h1, h2, h3]

set_option maxRecDepth 1000000 in
set_option maxHeartbeats 4000000 in
theorem same_some (la lb : List O3) (a ao ac b bo bc : Nat) (w : World) (ha : a < w.heap.size) (hb : b < w.heap.size) (hlen : la.length = lb.length) (hl : la.length ≤ 1099511627776)
    (hca : ∀ (i : Nat) o, la[i]? = some o → w.cell? ⟨a, ao + i * 3, none⟩ = some (.int .i64 o.1) ∧ w.cell? ⟨a, ao + i * 3 + 1, none⟩ = some (.int .i64 o.2.1) ∧ w.cell? ⟨a, ao + i * 3 + 2, none⟩ = some (.int .i64 o.2.2))
    (hcb : ∀ (i : Nat) o, lb[i]? = some o → w.cell? ⟨b, bo + i * 3, none⟩ = some (.int .i64 o.1) ∧ w.cell? ⟨b, bo + i * 3 + 1, none⟩ = some (.int .i64 o.2.1) ∧ w.cell? ⟨b, bo + i * 3 + 2, none⟩ = some (.int .i64 o.2.2)) :
    Calls Tryz.prog 23 #[.slice (some ⟨a, ao, none⟩) la.length ac, .slice (some ⟨b, bo, none⟩) la.length bc] w fun e w' => e = .returned (.bool (decide (la = lb))) ∧ Below w.heap.size w w' := by
  have HL : Hid (la.length = lb.length) := hlen
  clear hlen
  go_enter Tryz.func23, Tryz.ntmps23
  go_wp2
  go_loopw [5] (fun i wr => ∃ k : Nat, k ≤ la.length ∧ i = .int .i64 k ∧ (∀ j : Nat, j < k → la[j]? = lb[j]?) ∧ Below w.heap.size w wr) (fun i _ => la.length - (intOf i).toNat)
  case atStart => exact ⟨0, Nat.zero_le _, rfl, fun j hj => by omega, Below.refl _ _⟩
  case round =>
    obtain ⟨k, hk, rfl, hall, hbw⟩ := hrel
    have HA : Hid (∀ j : Nat, j < k → la[j]? = lb[j]?) := hall
    clear hall
    by_cases hkl : k < la.length
    · obtain ⟨o, ho⟩ : ∃ o, la[k]? = some o := ⟨la[k], List.getElem?_eq_getElem hkl⟩
      obtain ⟨p, hp⟩ : ∃ p, lb[k]? = some p := ⟨lb[k]'(by rw [← HL.out]; exact hkl), List.getElem?_eq_getElem _⟩
      obtain ⟨c0, c1, c2⟩ := hca k o ho
      obtain ⟨d0, d1, d2⟩ := hcb k p hp
      have e0 := (hbw.cell (p := ⟨a, ao + k * 3, none⟩) ha).trans c0
      have e1 := (hbw.cell (p := ⟨a, ao + k * 3 + 1, none⟩) ha).trans c1
      have e2 := (hbw.cell (p := ⟨a, ao + k * 3 + 2, none⟩) ha).trans c2
      have f0 := (hbw.cell (p := ⟨b, bo + k * 3, none⟩) hb).trans d0
      have f1 := (hbw.cell (p := ⟨b, bo + k * 3 + 1, none⟩) hb).trans d1
      have f2 := (hbw.cell (p := ⟨b, bo + k * 3 + 2, none⟩) hb).trans d2
      have HO : Hid (la[k]? = some o) := ho
      have HP : Hid (lb[k]? = some p) := hp
      clear c0 c1 c2 d0 d1 d2 ho hp
      have hki : (k : Int) < (la.length : Int) := by omega
      have hgd := guardOp
      have hnq := neq_op o p
      by_cases hop : o = p
      · have hdd : decide (o = p) = true := by simpa using hop
        rw [hdd] at hnq
        have HE : Hid (o = p) := hop
        clear hop hdd
        go_wp2
        go_quiet (fail)
        go_wp2
        go_roundw
        case rel =>
          refine ⟨k + 1, by omega, by go_num, fun j hj => ?_, below_drewN hbw _⟩
          by_cases hjk : j < k
          · exact HA.out j hjk
          · obtain rfl : j = k := by omega
            rw [HO.out, HP.out, HE.out]
        case measure => simp [intOf]; omega
      · have hdd : decide (o = p) = false := by simpa using hop
        rw [hdd] at hnq
        have HN : Hid (decide (la = lb) = false) := by
          show _ = _
          simp only [decide_eq_false_iff_not]
          intro e
          have h1 := HO.out
          rw [e, HP.out] at h1
          exact hop (Option.some.inj h1).symm
        clear hop hdd
        go_wp2
        go_quiet (fail)
        go_wp2
        go_ret
        exact ⟨ret_bool HN.out.symm, below_drewN hbw _⟩
    · have HN : Hid (decide (la = lb) = true) := by
        show _ = _
        simp only [decide_eq_true_eq]
        apply List.ext_getElem?
        intro j
        by_cases hj : j < k
        · exact HA.out j hj
        · rw [List.getElem?_eq_none (by omega), List.getElem?_eq_none (by rw [← HL.out]; omega)]
      go_wp2
      go_ret
      exact ⟨ret_bool HN.out.symm, hbw⟩

set_option maxRecDepth 1000000 in
set_option maxHeartbeats 4000000 in
theorem same_other (n m ac bc : Nat) (a b : Option Addr) (w : World) (h : ((n : Int) == (m : Int)) = false) :
    Calls Tryz.prog 23 #[.slice a n ac, .slice b m bc] w fun e w' => e = .returned (.bool false) ∧ Below w.heap.size w w' := by
  go_enter Tryz.func23, Tryz.ntmps23
  go_wp2
  go_ret
  exact ⟨rfl, Below.refl _ _⟩
set_option maxRecDepth 1000000 in
set_option maxHeartbeats 4000000 in
theorem same_nil (ac bc : Nat) (a b : Option Addr) (w : World) :
    Calls Tryz.prog 23 #[.slice a 0 ac, .slice b 0 bc] w fun e w' => e = .returned (.bool true) ∧ Below w.heap.size w w' := by
  go_enter Tryz.func23, Tryz.ntmps23
  go_wp2
  refine wp_loop_rounds 1 ?_
  rw [rounds_succ]
  go_wp2
  go_ret
  exact ⟨rfl, Below.refl _ _⟩
theorem same_any (va vb : Value) (la lb : List O3) (w : World) (ha : Ops w va la) (hb : Ops w vb lb) (hl : la.length ≤ 1099511627776) :
    Calls Tryz.prog 23 #[va, vb] w fun e w' => e = .returned (.bool (decide (la = lb))) ∧ Below w.heap.size w w' := by
  by_cases hlen : la.length = lb.length
  · rcases ha with ⟨rfl, ao, ac, rfl⟩ | ⟨a, ao, ac, rfl, hlta, hca⟩
    · have hlb : lb = [] := List.eq_nil_of_length_eq_zero (by simpa using hlen.symm)
      subst hlb
      obtain ⟨bo, bc, hvb⟩ := hb.form
      rw [hvb]
      exact same_nil ac bc ao bo w
    · rcases hb with ⟨rfl, bo, bc, rfl⟩ | ⟨b, bo, bc, rfl, hltb, hcb⟩
      · have hla : la = [] := List.eq_nil_of_length_eq_zero (by simpa using hlen)
        subst hla
        exact same_nil ac bc _ bo w
      · rw [← hlen]
        exact same_some la lb a ao ac b bo bc w hlta hltb hlen hl hca hcb
  · obtain ⟨ao, ac, rfl⟩ := ha.form
    obtain ⟨bo, bc, rfl⟩ := hb.form
    rw [show decide (la = lb) = false by simp only [decide_eq_false_iff_not]; intro e; exact hlen (by rw [e])]
    exact same_other _ _ _ _ _ _ w (by simp; omega)
end Go.Proofs.YtjbbpbhlbmmekaeGreatDoor
namespace Go.Proofs.YtjbbpbhlbmmekaeGreatDoor
open Go.RowKit

set_option maxRecDepth 100000 in
set_option maxHeartbeats 8000000 in
theorem refways_any (l : List W4) (v : Value) (w : World) (hl : Wrs w v l) (hlen : l.length ≤ 12) (hok : ∀ x ∈ l, w4chk x = 0) :
    Calls Tryz.prog 15 #[v] w fun e w' => e = .returned (.agg #[.bool (way l 0 0), .bool (way l 0 1), .bool (way l 0 2), .bool (way l 0 3), .bool (way l 0 4), .bool (way l 1 0), .bool (way l 1 1), .bool (way l 1 2), .bool (way l 1 3), .bool (way l 1 4), .bool (way l 2 0), .bool (way l 2 1), .bool (way l 2 2), .bool (way l 2 3), .bool (way l 2 4), .bool (way l 3 0), .bool (way l 3 1), .bool (way l 3 2), .bool (way l 3 3), .bool (way l 3 4), .bool (way l 4 0), .bool (way l 4 1), .bool (way l 4 2), .bool (way l 4 3), .bool (way l 4 4)]) ∧ Below w.heap.size w w' := by
  obtain ⟨ao, cap, rfl⟩ := hl.form
  have HL : Hid (Wrs w (.slice ao l.length cap) l) := hl
  have HK : Hid (∀ x ∈ l, w4chk x = 0) := hok
  clear hl hok
  go_enter Tryz.func15, Tryz.ntmps15
  go_wp2
  go_loopw [4] (fun i wr => ∃ k : Nat, k ≤ 5 ∧ i = .int .i64 k ∧ Mx wr (w.heap.size + 1) (dg k) ∧ Mx wr w.heap.size (dg 0) ∧ Below w.heap.size w wr ∧ w.heap.size + 2 ≤ wr.heap.size) (fun i _ => 5 - (intOf i).toNat)
  case atStart =>
    refine ⟨0, Nat.zero_le _, rfl, ?_, ?_, ((Below.refl _ _).alloc (Nat.le_refl _) _).alloc (by simp) _, by simp⟩
    · intro x y hx hy
      revert y
      revert x
      refine five ?_ ?_ ?_ ?_ ?_ <;> refine five ?_ ?_ ?_ ?_ ?_ <;> simp [dg]
    · intro x y hx hy
      revert y
      revert x
      refine five ?_ ?_ ?_ ?_ ?_ <;> refine five ?_ ?_ ?_ ?_ ?_ <;> simp [dg]
  case round =>
    obtain ⟨k, hk, rfl, hM, hZ, hB, hsz⟩ := hrel
    have HM : Hid (Mx wr (w.heap.size + 1) (dg k)) := hM
    have HZ : Hid (Mx wr w.heap.size (dg 0)) := hZ
    clear hM hZ
    by_cases hk5 : k < 5
    · have hki : (k : Int) < 5 := by omega
      obtain ⟨c, f⟩ := HM.out k k hk5 hk5
      go_wp2
      go_roundw
      case rel => exact ⟨k + 1, by omega, by go_num, (HM.out.set hk5 hk5).congr (fun x y _ _ => dg_succ k x y), HZ.out.apart (by omega) _ _, hB.setCell (p := ⟨w.heap.size + 1, _, none⟩) (Nat.le_succ _) _, by simpa using hsz⟩
      case measure => simp [intOf]; omega
    · obtain rfl : k = 5 := by omega
      have HE : Hid (Mx wr (w.heap.size + 1) (edge (l.take 0))) := HM.out.congr (fun x y hx hy => by rw [List.take_zero]; exact dg_five x y hx hy)
      clear HM
      go_wp2
      rename World => wo
      go_loopw [5] (fun i wr => ∃ k : Nat, k ≤ l.length ∧ i = .int .i64 k ∧ Mx wr (w.heap.size + 1) (edge (l.take k)) ∧ Mx wr w.heap.size (dg 0) ∧ Below w.heap.size w wr ∧ w.heap.size + 2 ≤ wr.heap.size) (fun i _ => l.length - (intOf i).toNat)
      case atStart => exact ⟨0, Nat.zero_le _, rfl, HE.out, HZ.out, hB, hsz⟩
      case round =>
        clear HE HZ hB hsz
        obtain ⟨k, hk, rfl, hM, hZ, hB, hsz⟩ := hrel
        have HM : Hid (Mx wr (w.heap.size + 1) (edge (l.take k))) := hM
        have HZ : Hid (Mx wr w.heap.size (dg 0)) := hZ
        clear hM hZ
        by_cases hkl : k < l.length
        · have hki : (k : Int) < (l.length : Int) := by omega
          obtain ⟨b, off, f, t, kd, d, rfl, hlt, hx, c0, c1, _, _⟩ := HL.out.at hkl
          have hr := w4_rooms (HK.out _ (List.mem_of_getElem? hx))
          simp only at hr
          obtain ⟨fi, rfl⟩ : ∃ n : Nat, f = n := ⟨f.toNat, by omega⟩
          obtain ⟨ti, rfl⟩ : ∃ n : Nat, t = n := ⟨t.toNat, by omega⟩
          obtain ⟨_, hf5, _, ht5, _⟩ := hr
          have HX : Hid (l[k]? = some ((fi : Int), (ti : Int), kd, d)) := hx
          have hf5' : (fi : Int) < 5 := hf5
          have ht5' : (ti : Int) < 5 := ht5
          have hfn : fi < 5 := by omega
          have htn : ti < 5 := by omega
          replace c0 := (hB.cell (p := ⟨b, _, none⟩) hlt).trans c0
          replace c1 := (hB.cell (p := ⟨b, _, none⟩) hlt).trans c1
          obtain ⟨c, fz⟩ := HM.out fi ti hfn htn
          clear hx
          go_wp2
          go_region
          all_goals go_wp2
          all_goals go_roundw
          case rel =>
            refine ⟨k + 1, by omega, by go_num, ?_, (HZ.out.apart (by omega) _ _).drew, (hB.setCell (p := ⟨w.heap.size + 1, _, none⟩) (Nat.le_succ _) _).drew, by simpa using hsz⟩
            refine ((HM.out.set hfn htn).congr (fun x y _ _ => ?_)).drew
            rw [edge_snoc (l.take k) fi ti kd d fi ti rfl rfl, ← take_snoc4 HX.out]
          case measure => simp [intOf]; omega
        · obtain rfl : k = l.length := by omega
          have hki : decide ((l.length : Int) < (l.length : Int)) = false := by simp
          have HE : Hid (Mx wr (w.heap.size + 1) (pm (edge l) 0)) := HM.out.congr (fun x y _ _ => by rw [List.take_length]; rfl)
          clear HM
          go_wp2
          rename World => wp
          go_loopw [6] (fun i wr => ∃ m : Nat, m ≤ 5 ∧ i = .int .i64 m ∧ Mx wr (w.heap.size + 1) (pm (edge l) m) ∧ Mx wr w.heap.size (dg 0) ∧ Below w.heap.size w wr ∧ w.heap.size + 2 ≤ wr.heap.size) (fun i _ => 5 - (intOf i).toNat)
          case atStart => exact ⟨0, Nat.zero_le _, rfl, HE.out, HZ.out, hB, hsz⟩
          case round =>
            clear HE HZ hB hsz
            obtain ⟨m, hm, rfl, hM, hZ, hB, hsz⟩ := hrel
            have HM : Hid (Mx wr (w.heap.size + 1) (pm (edge l) m)) := hM
            have HZ : Hid (Mx wr w.heap.size (dg 0)) := hZ
            clear hM hZ
            by_cases hm5 : m < 5
            · have hmi : (m : Int) < 5 := by omega
              go_wp2
              rename World => wq
              go_loopw [7] (fun i wr => ∃ (i' : Nat) (M : Nat → Nat → Bool), i' ≤ 5 ∧ i = .int .i64 i' ∧ Win (edge l) m i' 0 M ∧ Mx wr (w.heap.size + 1) M ∧ Mx wr w.heap.size (dg 0) ∧ Below w.heap.size w wr ∧ w.heap.size + 2 ≤ wr.heap.size) (fun i _ => 5 - (intOf i).toNat)
              case atStart => exact ⟨0, _, Nat.zero_le _, rfl, Win.start _ m, HM.out, HZ.out, hB, hsz⟩
              case round =>
                clear HM HZ hB hsz
                obtain ⟨i, M, hi, rfl, hW, hM, hZ, hB, hsz⟩ := hrel
                have HW : Hid (Win (edge l) m i 0 M) := hW
                have HM : Hid (Mx wr (w.heap.size + 1) M) := hM
                have HZ : Hid (Mx wr w.heap.size (dg 0)) := hZ
                clear hM hZ hW
                by_cases hi5 : i < 5
                · have hii : (i : Int) < 5 := by omega
                  go_wp2
                  rename World => ws
                  go_loopw [8] (fun j wr => ∃ (k : Nat) (M : Nat → Nat → Bool), k ≤ 5 ∧ j = .int .i64 k ∧ Win (edge l) m i k M ∧ Mx wr (w.heap.size + 1) M ∧ Mx wr w.heap.size (dg 0) ∧ Below w.heap.size w wr ∧ w.heap.size + 2 ≤ wr.heap.size) (fun j _ => 5 - (intOf j).toNat)
                  case atStart => exact ⟨0, M, Nat.zero_le _, rfl, HW.out, HM.out, HZ.out, hB, hsz⟩
                  case round =>
                    clear HM HZ HW hB hsz
                    obtain ⟨k, N, hk, rfl, hW, hM, hZ, hB, hsz⟩ := hrel
                    have HW : Hid (Win (edge l) m i k N) := hW
                    have HM : Hid (Mx wr (w.heap.size + 1) N) := hM
                    have HZ : Hid (Mx wr w.heap.size (dg 0)) := hZ
                    clear hM hZ hW
                    by_cases hk5 : k < 5
                    · have hki : (k : Int) < 5 := by omega
                      obtain ⟨c1, _⟩ := HM.out i m hi5 hm5
                      obtain ⟨c2, _⟩ := HM.out m k hm5 hk5
                      obtain ⟨c3, f3⟩ := HM.out i k hi5 hk5
                      cases h1 : N i m with
                      | false =>
                        have H0 : Hid (¬ (N i m = true ∧ N m k = true)) := fun h => by rw [h1] at h; cases h.1
                        rw [h1] at c1
                        clear h1 c2 c3 f3
                        go_wp2
                        go_roundw
                        case rel => exact ⟨k + 1, N, by omega, by go_num, HW.out.no hm5 hi5 hk5 H0.out, HM.out, HZ.out, hB, hsz⟩
                        case measure => simp [intOf]; omega
                      | true =>
                        cases h2 : N m k with
                        | false =>
                          have H0 : Hid (¬ (N i m = true ∧ N m k = true)) := fun h => by rw [h2] at h; cases h.2
                          rw [h1] at c1
                          rw [h2] at c2
                          clear h1 h2 c3 f3
                          go_wp2
                          go_roundw
                          case rel => exact ⟨k + 1, N, by omega, by go_num, HW.out.no hm5 hi5 hk5 H0.out, HM.out, HZ.out, hB, hsz⟩
                          case measure => simp [intOf]; omega
                        | true =>
                          have H1 : Hid (N i m = true) := h1
                          have H2 : Hid (N m k = true) := h2
                          rw [h1] at c1
                          rw [h2] at c2
                          clear h1 h2
                          go_wp2
                          go_roundw
                          case rel => exact ⟨k + 1, _, by omega, by go_num, HW.out.yes hm5 hi5 hk5 H1.out H2.out, HM.out.set hi5 hk5, HZ.out.apart (by omega) _ _, hB.setCell (p := ⟨w.heap.size + 1, _, none⟩) (Nat.le_succ _) _, by simpa using hsz⟩
                          case measure => simp [intOf]; omega
                    · obtain rfl : k = 5 := by omega
                      go_wp2
                      go_roundw
                      case rel => exact ⟨i + 1, N, by omega, by go_num, HW.out.line, HM.out, HZ.out, hB, hsz⟩
                      case measure => simp [intOf]; omega
                · obtain rfl : i = 5 := by omega
                  go_wp2
                  go_roundw
                  case rel => exact ⟨m + 1, by omega, by go_num, HM.out.congr HW.out.last, HZ.out, hB, hsz⟩
                  case measure => simp [intOf]; omega
            · obtain rfl : m = 5 := by omega
              have hrg : wr.rangeAt (w.heap.size + 1) 0 (wayCells l) := HM.out.range
              have hth : wr.there w.heap.size 0 25 := HZ.out.there
              clear HM HZ
              go_upto_region 21 with fail
              refine wp_region_lit ?_
              refine wpList_load_mid rfl 55 _ rfl (w.heap.size + 1) 0 rfl (wayCells l) _ hrg Tryz.underlying55 rfl (by kernel_rfl) ?_
              refine wpList_store_mid rfl 55 _ _ rfl w.heap.size 0 (wayCells l).toArray rfl rfl hth (by kernel_rfl) (way_one l) ?_
              have hB2 : Below w.heap.size w (wr.setCells w.heap.size 0 (wayCells l)) := below_cells hB (Nat.le_refl _) _ _
              have hr2 : (wr.setCells w.heap.size 0 (wayCells l)).rangeAt w.heap.size 0 (wayCells l) := World.rangeAt_setCells_same _ _ _ _ hth
              have hld : (loadVar 55 ⟨w.heap.size, 0, none⟩).run Tryz.prog (wr.setCells w.heap.size 0 (wayCells l)) = .ok (.agg (wayCells l).toArray) (wr.setCells w.heap.size 0 (wayCells l)) := run_loadVar_mid _ _ _ _ _ _ hr2 Tryz.underlying55 rfl (by kernel_rfl)
              rw [show (wayCells l).toArray.toList = wayCells l from rfl]
              generalize wr.setCells w.heap.size 0 (wayCells l) = wz at hB2 hr2 hld ⊢
              clear hr2 hrg hth
              go_wp2
              refine bodyPost_ret (v := .agg (wayCells l).toArray) ?_ rfl ⟨rfl, hB2⟩
              exact results_cell Tryz.results15 rfl hld
end Go.Proofs.YtjbbpbhlbmmekaeGreatDoor
namespace Go.Proofs.YtjbbpbhlbmmekaeGreatDoor
open Go.RowKit

theorem ways_any (l : List W4) (v : Value) (w : World) (hl : Wrs w v l) (hlen : l.length ≤ 12) (hok : ∀ x ∈ l, w4chk x = 0) :
    Calls Tryz.prog 15 #[v] w fun e w' => e = .returned (.agg (wayCells l).toArray) ∧ Below w.heap.size w w' :=
  (refways_any l v w hl hlen hok).mono fun _ _ ⟨he, hb⟩ => ⟨he.trans rfl, hb⟩
/-- Five rows of five, new. -/
def z25 : Array Value := #[.bool false, .bool false, .bool false, .bool false, .bool false, .bool false, .bool false, .bool false, .bool false, .bool false, .bool false, .bool false, .bool false, .bool false, .bool false, .bool false, .bool false, .bool false, .bool false, .bool false, .bool false, .bool false, .bool false, .bool false, .bool false]
theorem mx_new (W : World) (t : TypeId) : Mx (W.alloc (.cells z25 t)) W.heap.size (fun _ _ => false) := by
  unfold z25
  intro x y hx hy
  revert y
  revert x
  refine five ?_ ?_ ?_ ?_ ?_ <;> refine five ?_ ?_ ?_ ?_ ?_ <;> simp
theorem there_new (W : World) (t : TypeId) : (W.alloc (.cells z25 t)).there W.heap.size 0 25 := (mx_new W t).there
theorem ways_cell (W : World) (l : List W4) (t : TypeId) {i k : Nat} (hi : i < 5) (hk : k < 5) : ((W.alloc (.cells z25 t)).setCells W.heap.size 0 (wayCells l)).cell? ⟨W.heap.size, i * 5 + k, none⟩ = some (.bool (way l i k)) := by
  have hr := World.rangeAt_setCells_same (W.alloc (.cells z25 t)) W.heap.size 0 (wayCells l) (there_new W t)
  have := hr (i * 5 + k) (.bool (way l i k)) (by
    unfold wayCells
    rw [List.getElem?_map, List.getElem?_range (by omega), Option.map_some, show (i * 5 + k) / 5 = i by omega, show (i * 5 + k) % 5 = k by omega])
  rwa [Nat.zero_add] at this
end Go.Proofs.YtjbbpbhlbmmekaeGreatDoor
