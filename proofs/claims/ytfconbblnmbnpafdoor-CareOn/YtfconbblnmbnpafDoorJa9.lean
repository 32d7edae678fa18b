/-
  RPurge, StEq, CStays, WayL, FlEither, FlReached, FlIdx, FlAhead, PgPurge, GPut: joined into one text.
-/
import Derived.Test.YtfconbblnmbnpafDoorJa8
import Derived.Test.YtfconbblnmbnpafDoorJa1
import Derived.RangeFuncRecord
import Derived.Deep.RegionLaw
import Derived.Deep.CutRange
import Derived.Laws.StructEq
import Derived.Deep.CutBlock
import Derived.Deep.RegionWith
import Derived.BigQuiet
import Derived.RangeFuncNested
import Derived.Deep.MidRow
import Derived.Deep.RegionHeld3
import Derived.Test.YtfconbblnmbnpafDoorJa6
import Derived.Test.YtfconbblnmbnpafDoorJa7
import Derived.Test.YtfconbblnmbnpafDoorJa3
namespace Go.Proofs.YtfconbblnmbnpafDoor
open Go.RowKit

/-- The plan is being made: codes so far. -/
structure QP (b0 : Nat) (w1 W : World) (p : PD) (R : Nat → Bool) (kb : Nat) (vs vw cv : Value) (us : List Value) : Prop where
  tk : KTouch [kb] w1 W
  kl : kb < w1.heap.size
  k0 : b0 ≤ kb
  blk : W.heap[kb]? = some (.cells #[cv, .int .i64 p.ticks, vs, vw] 26 (0, 0))
  own : W.ownsRow w1.heap.size 36 1 cv us.length us
  ops : ∀ (i : Nat) u c, us[i]? = some u → p.code[i]? = some c → Ops W u (if R i = true then c else restC)
  ap : ∀ u ∈ us, ∀ g, u.ownBlock = some g → (g < b0 ∨ w1.heap.size ≤ g) ∧ g < W.heap.size ∧ cv.ownBlock ≠ some g
  len : us.length ≤ p.code.length
theorem QP.cs {b0 : Nat} {w1 W : World} {p : PD} {R : Nat → Bool} {kb : Nat} {vs vw cv : Value} {us : List Value} (h : QP b0 w1 W p R kb vs vw cv us) : W.cell? ⟨kb, 0, none⟩ = some cv ∧ W.cell? ⟨kb, 1, none⟩ = some (.int .i64 p.ticks) ∧ W.cell? ⟨kb, 2, none⟩ = some vs ∧ W.cell? ⟨kb, 3, none⟩ = some vw ∧ W.frozen? ⟨kb, 0, none⟩ = false := by
  have e := h.blk
  simp [World.cell?, World.frozen?, e]
/-- One code more: one of the plan's, or one that rests. -/
theorem QP.more {b0 : Nat} {w1 W w2 wa : World} {p : PD} {R : Nat → Bool} {kb : Nat} {vs vw cv cv' u : Value} {us : List Value} {c : List O3} (h : QP b0 w1 W p R kb vs vw cv us) (hc : p.code[us.length]? = some c) (b2 : Below W.heap.size W w2) (hu : Ops w2 u (if R us.length = true then c else restC))
    (hua : ∀ g, u.ownBlock = some g → (g < b0 ∨ W.heap.size ≤ g) ∧ g < w2.heap.size)
    (hg : (w2.alloc (.cells #[u] 36)).grownBy wa cv.ownBlock) (hown : wa.ownsRow w1.heap.size 36 1 cv' (us.length + 1) (us ++ [u])) (hnew : ∀ g, cv'.ownBlock = some g → cv.ownBlock = some g ∨ w2.heap.size + 1 ≤ g) : QP b0 w1 (wa.setCell ⟨kb, 0, none⟩ cv') p R kb vs vw cv' (us ++ [u]) := by
  have b3 : Below W.heap.size W (w2.alloc (.cells #[u] 36)) := b2.alloc b2.size _
  have hs3 : (w2.alloc (.cells #[u] 36)).heap.size = w2.heap.size + 1 := by simp
  have hs := h.tk.size
  have hs2 := b2.size
  have hga := hg.size
  rw [hs3] at hga
  have hkl := h.kl
  have hk0 := h.k0
  have hcr : ∀ k, cv.ownBlock = some k → w1.heap.size ≤ k ∧ k < W.heap.size := fun k hk => h.own.lt k hk
  have hset : ∀ k, k ≠ kb → (wa.setCell ⟨kb, 0, none⟩ cv').heap[k]? = wa.heap[k]? := fun k hk => Below.heap_setCell _ _ _ _ hk
  have hsz2 : (wa.setCell ⟨kb, 0, none⟩ cv').heap.size = wa.heap.size := by simp
  have hold : ∀ k, k < w2.heap.size → k ≠ kb → cv.ownBlock ≠ some k → (wa.setCell ⟨kb, 0, none⟩ cv').heap[k]? = w2.heap[k]? := fun k h2 h3 h4 => (hset k h3).trans ((hg.block k (by rw [hs3]; omega) (fun e => h4 e.symm)).trans (((Below.refl _ w2).alloc (Nat.le_refl _) _).block k h2))
  have hune : ∀ g, u.ownBlock = some g → g ≠ kb ∧ cv.ownBlock ≠ some g := fun g hg' => by
    obtain ⟨h1, _⟩ := hua g hg'
    refine ⟨by omega, fun e => ?_⟩
    have := hcr g e
    omega
  refine ⟨⟨(hg.os.trans (b3.os.trans h.tk.os)), (hg.tape.trans (b3.tape.trans h.tk.tape)), (hg.output.trans (b3.output.trans h.tk.output)), by omega, fun k hk hm => ?_⟩, h.kl, h.k0, ?_, ?_, fun i x d hx hd => ?_, fun x hx g hgx => ?_, ?_⟩
  · have hkk : k ≠ kb := fun e => hm (by simp [e])
    refine (hset k hkk).trans ((hg.block k (by rw [hs3]; omega) (fun e => ?_)).trans ((b3.block k (by omega)).trans (h.tk.block k hk hm)))
    have := (hcr k e.symm).1
    omega
  · have hlt : kb < W.heap.size := by omega
    have e : wa.heap[kb]? = some (.cells #[cv, .int .i64 p.ticks, vs, vw] 26 (0, 0)) := (hg.block kb (by rw [hs3]; omega) (fun e => by have := (hcr kb e.symm).1; omega)).trans ((b3.block kb hlt).trans h.blk)
    simp [World.setCell, Array.getElem?_modify, e]
  · rw [List.length_append]
    exact ownsRow_setCell_below hown (a := ⟨kb, 0, none⟩) h.kl cv'
  · by_cases hi : i < us.length
    · rw [List.getElem?_append_left hi] at hx
      have ho := h.ops i x d hx hd
      refine (ho.all b2).block (fun k hk he => ?_) (by omega)
      obtain ⟨h1, h2, h3⟩ := h.ap x (List.mem_of_getElem? hx) k he
      exact hold k hk (by omega) h3
    · have hlt := (List.getElem?_eq_some_iff.1 hx).1
      rw [List.length_append, List.length_singleton] at hlt
      obtain rfl : i = us.length := by omega
      rw [List.getElem?_append_right (Nat.le_refl _), Nat.sub_self] at hx
      simp only [List.getElem?_cons_zero, Option.some.injEq] at hx
      subst hx
      rw [hc] at hd
      obtain rfl := Option.some.inj hd
      exact hu.block (fun k hk he => hold k hk (hune k he).1 (hune k he).2) (by omega)
  · rcases List.mem_append.1 hx with h1 | h1
    · obtain ⟨h2, h3, h4⟩ := h.ap x h1 g hgx
      refine ⟨h2, by omega, fun e => ?_⟩
      rcases hnew g e with h5 | h5
      · exact h4 h5
      · omega
    · rw [List.mem_singleton] at h1
      subst h1
      obtain ⟨h2, h3⟩ := hua g hgx
      refine ⟨by omega, by omega, fun e => ?_⟩
      rcases hnew g e with h5 | h5
      · exact (hune g hgx).2 h5
      · omega
  · rw [List.length_append, List.length_singleton]
    exact (List.getElem?_eq_some_iff.1 hc).1
/-- All of them, read elsewhere than in two blocks of the caller's. -/
theorem QP.cds {b0 : Nat} {w1 W W' : World} {p : PD} {R : Nat → Bool} {kb : Nat} {vs vw cv : Value} {us : List Value} (h : QP b0 w1 W p R kb vs vw cv us) (hl : us.length = p.code.length) {M : List Nat} (ht : KTouch M W W') (hM : ∀ m ∈ M, b0 ≤ m ∧ m < w1.heap.size) : Cds W' cv (purgeC R 0 p.code) := by
  have hrl := h.own.lt
  have hcs := @World.ownsRow.cells _ _ _ _ _ _ _ h.own
  have hlen : (purgeC R 0 p.code).length = us.length := by rw [purgeC_len, hl]
  rcases h.own.2 with ⟨rfl, h0⟩ | ⟨g, cap, cur, rfl, hge, _, hcap, _⟩
  · exact Or.inl ⟨List.eq_nil_of_length_eq_zero (by rw [hlen]; exact h0), _, _, rfl⟩
  · refine Or.inr ⟨g, 0, cap, by rw [hlen], by rw [hlen]; exact hcap, Nat.lt_of_lt_of_le (hrl g rfl).2 ht.size, fun i d hd => ?_⟩
    rw [purgeC_at] at hd
    obtain ⟨c, hc, hcd⟩ := Option.map_eq_some_iff.1 hd
    have hil : i < us.length := by rw [hl]; exact (List.getElem?_eq_some_iff.1 hc).1
    have hu : us[i]? = some us[i] := List.getElem?_eq_getElem hil
    have hcell := hcs rfl i _ hu
    rw [Addr.add_lit] at hcell
    refine ⟨us[i], (World.cell?_of_block (w := W) (a := ⟨g, _, none⟩) (ht.block g (hrl g rfl).2 (fun hm => ?_))).trans hcell, ?_⟩
    · have := (hM g hm).2
      omega
    · rw [← hcd, Nat.zero_add]
      refine (h.ops i _ c hu hc).block (fun k hk he => ht.block k hk (fun hm => ?_)) ht.size
      obtain ⟨h1, _, _⟩ := h.ap _ (List.mem_of_getElem? hu) k he
      have := hM k hm
      omega
theorem rest_ops {w : World} {k : Nat} (hk : k = w.heap.size) : Ops (w.alloc (.cells #[.int .i64 10, .int .i64 0, .int .i64 0] 57)) (.slice (some ⟨k, 0, none⟩) 1 1) restC := by
  subst hk
  refine Or.inr ⟨w.heap.size, 0, 1, rfl, by simp, fun i o ho => ?_⟩
  match i, ho with
  | 0, ho => simp [restC] at ho; subst ho; simp [go_sem]
  | i + 1, ho => simp [restC] at ho
end Go.Proofs.YtfconbblnmbnpafDoor
namespace Go.Proofs.YtfconbblnmbnpafDoor
open Go.RowKit

theorem fieldsSt : Tryd.prog.underlying 39 = some (.struct (Tryd.prog.fieldsOf 39)) := by kernel_rfl
theorem stoodSt : Tryd.prog.stoodInHeld 39 = false := by kernel_rfl
theorem guardSt : Tryd.prog.eqGuardType Tryd.prog.depth 39 = false := by kernel_rfl
theorem fieldsStIs : Tryd.prog.fieldsOf 39 = #[{ name := "At", type := 3, offset := 0, embedded := false, tag := "", pkgPath := "", byteOffset := 0 }, { name := "Cells", type := 37, offset := 1, embedded := false, tag := "", pkgPath := "", byteOffset := 8 }, { name := "Failed", type := 4, offset := 7, embedded := false, tag := "", pkgPath := "", byteOffset := 56 }] := by kernel_rfl
theorem eqIn_six (a b c d e f : Int) (w : World) : (Op.equalIn 9999 37 (.agg #[.int .i64 a, .int .i64 b, .int .i64 c, .int .i64 d, .int .i64 e, .int .i64 f]) (.agg #[.int .i64 a, .int .i64 b, .int .i64 c, .int .i64 d, .int .i64 e, .int .i64 f])).run Tryd.prog w = .ok true w := by
  obtain ⟨n, hn⟩ : ∃ n, n + 1 = 9999 := ⟨9998, rfl⟩
  obtain ⟨m, hm⟩ : ∃ m, n = m + 1 := ⟨9997, by omega⟩
  rw [← hn]
  clear hn
  have hq : ∀ (x : Int) (w : World), (Op.equalIn n 3 (.int .i64 x) (.int .i64 x)).run Tryd.prog w = .ok true w := fun x w => by
    rw [hm, run_equalIn_int w m 3 .i64 .i64 x x Tryd.underlying3]
    simp
  clear hm
  simp only [Op.equalIn, Sem.run_bind, run_underlying Tryd.underlying37, Result.andThen_ok]
  simp [List.range', go_sem, hq]
theorem eqIn_st (p a b c d e f : Int) (g : Bool) (w : World) : (Op.equalIn 10000 39 (.agg #[.int .i64 p, .int .i64 a, .int .i64 b, .int .i64 c, .int .i64 d, .int .i64 e, .int .i64 f, .bool g]) (.agg #[.int .i64 p, .int .i64 a, .int .i64 b, .int .i64 c, .int .i64 d, .int .i64 e, .int .i64 f, .bool g])).run Tryd.prog w = .ok true w := by
  rw [run_equalIn_agg _ _ _ _ _ fieldsSt stoodSt, fieldsStIs]
  simp [go_sem, Tryd.underlying3, Tryd.underlying4, eqIn_six]
theorem eql_st (p a b c d e f : Int) (g : Bool) (w : World) : (binOp .eql 39 (.agg #[.int .i64 p, .int .i64 a, .int .i64 b, .int .i64 c, .int .i64 d, .int .i64 e, .int .i64 f, .bool g]) (.agg #[.int .i64 p, .int .i64 a, .int .i64 b, .int .i64 c, .int .i64 d, .int .i64 e, .int .i64 f, .bool g])).run Tryd.prog w = .ok (.bool true) w := by
  rw [run_eql_struct, eqIn_st]
  rfl
theorem neq_st (p a b c d e f : Int) (g : Bool) (w : World) : (binOp .neq 39 (.agg #[.int .i64 p, .int .i64 a, .int .i64 b, .int .i64 c, .int .i64 d, .int .i64 e, .int .i64 f, .bool g]) (.agg #[.int .i64 p, .int .i64 a, .int .i64 b, .int .i64 c, .int .i64 d, .int .i64 e, .int .i64 f, .bool g])).run Tryd.prog w = .ok (.bool false) w := by
  rw [run_neq_struct, eqIn_st]
  rfl
end Go.Proofs.YtfconbblnmbnpafDoor
namespace Go.Proofs.YtfconbblnmbnpafDoor
open Go.RowKit

set_option maxRecDepth 1000000 in
set_option maxHeartbeats 16000000 in
theorem cstays_of {G : World → Prop} (CC : CarC G) (CK : KerC G) (P : PrgPurge G) (p : PD) (vc vs vw wv : Value) (what : List Int) (most n r : Int) (w : World) (hG : G w) (hP : Pln w vc vs vw p) (hW : Stp w wv what) :
    Calls Tryd.prog 4 #[plV vc p.ticks vs vw, wv, .int .i64 most, .int .i64 n, .int .i64 r] w fun e w' => e = .returned (.bool true) ∧ Below w.heap.size w w' := by
  obtain ⟨ca, cc, rfl⟩ := hP.code.form
  obtain ⟨sa, sc, rfl⟩ := hP.spans.form
  obtain ⟨wa, wc', rfl⟩ := hP.wires.form
  obtain ⟨ta, tc, rfl⟩ := hW.form
  have hx0 := Bx.first w (.slice ca p.code.length cc) p.ticks (.slice sa p.spans.length sc) (.slice wa p.wires.length wc')
  have HP : Hid (Pln w (.slice ca p.code.length cc) (.slice sa p.spans.length sc) (.slice wa p.wires.length wc') p) := hP
  have HW : Hid (Stp w (.slice ta what.length tc) what) := hW
  have HG : Hid (∀ W, Below w.heap.size w W → G W) := fun W hb => CC.all w W hG hb
  unfold plV
  clear hP hW hG
  go_enter Tryd.func4, Tryd.ntmps4
  go_upto_region 1 with fail
  generalize hWA : w.alloc (.cells #[.slice ca p.code.length cc, .int .i64 p.ticks, .slice sa p.spans.length sc, .slice wa p.wires.length wc'] 26) = WA at hx0 ⊢
  clear hWA
  have hpl := failP_pln WA WA.heap.size rfl
  have hB0 : Below WA.heap.size WA (((WA.alloc (.cells #[.int .i64 11, .int .i64 0, .int .i64 0] 57)).alloc (.cells #[.slice (some ⟨WA.heap.size, 0, none⟩) 1 1] 36)).alloc (.cells #[.int .i64 0, .int .i64 1, .int .i64 0] 59)) := (((Below.refl _ _).alloc (Nat.le_refl _) _).alloc (by simp) _).alloc (by simp; omega) _
  have hB1 : Below WA.heap.size WA ((((WA.alloc (.cells #[.int .i64 11, .int .i64 0, .int .i64 0] 57)).alloc (.cells #[.slice (some ⟨WA.heap.size, 0, none⟩) 1 1] 36)).alloc (.cells #[.int .i64 0, .int .i64 1, .int .i64 0] 59)).alloc (.cells #[.int .i64 1] 3)) := hB0.alloc hB0.size _
  have hS1 : Stp ((((WA.alloc (.cells #[.int .i64 11, .int .i64 0, .int .i64 0] 57)).alloc (.cells #[.slice (some ⟨WA.heap.size, 0, none⟩) 1 1] 36)).alloc (.cells #[.int .i64 0, .int .i64 1, .int .i64 0] 59)).alloc (.cells #[.int .i64 1] 3)) (.slice (some ⟨WA.heap.size + 3, 0, none⟩) 1 1) [1] := by
    refine Or.inr ⟨WA.heap.size + 3, 0, 1, rfl, by simp, fun i x hi => ?_⟩
    match i, hi with
    | 0, hi =>
      simp at hi
      subst hi
      simp [go_sem]
    | i + 1, hi => simp at hi
  have q1 : Calls Tryd.prog 15 #[.agg #[.slice (some ⟨WA.heap.size + 1, 0, none⟩) 1 1, .int .i64 1, .slice (some ⟨WA.heap.size + 2, 0, none⟩) 1 1, .slice none 0 0], .slice (some ⟨WA.heap.size + 3, 0, none⟩) 1 1, .int .i64 1] ((((WA.alloc (.cells #[.int .i64 11, .int .i64 0, .int .i64 0] 57)).alloc (.cells #[.slice (some ⟨WA.heap.size, 0, none⟩) 1 1] 36)).alloc (.cells #[.int .i64 0, .int .i64 1, .int .i64 0] 59)).alloc (.cells #[.int .i64 1] 3)) fun e w' => ∃ ob F, e = .returned (.tuple #[.pointer (some ⟨ob, 0, none⟩), .nilIface]) ∧ CC.K WA w' failP [1] 1 (failD 0) ob F := by
    refine (CC.new failP _ _ _ _ [1] 1 _ (HG.out _ (hx0.step hB1).below) (hpl.all ((Below.refl _ _).alloc (Nat.le_refl _) _)) hS1 fail_carE).mono ?_
    rintro e w' ⟨ob, F, rfl, h⟩
    exact ⟨ob, F, rfl, CC.lower hB1 h⟩
  have HG0 : Hid (G WA) := HG.out WA hx0.below
  have HTk : Hid (∀ (j : Nat) (x : Int) W ob F, j ≤ 3 → (evC failP [1] 1 (failD j)).2.2.2 = x → CC.K WA W failP [1] 1 (failD j) ob F → Calls Tryd.prog 16 #[.pointer (some ⟨ob, 0, none⟩)] W fun e w' => (∃ a b c, e = .returned (.agg #[.int .i64 a, .int .i64 b, .int .i64 c, .int .i64 x])) ∧ ∃ F', CC.K WA w' failP [1] 1 (failD (j + 1)) ob F' ∧ KTouch F W w' ∧ ∀ g ∈ F', g ∈ F ∨ W.heap.size ≤ g) := fun j x W ob F hj hx hK => by
    subst hx
    refine (CC.tick HG0.out hK fail_carE (failD_ok j) (by rw [fail_time]; omega)).mono ?_
    rintro e w' ⟨rfl, F', h1, h2, h3⟩
    exact ⟨⟨_, _, _, rfl⟩, F', h1, h2, h3⟩
  clear hpl hB0 hB1 hS1
  go_upto_region 4 with (go_at_call 15; refine q1.mono ?_; rintro e w1 ⟨ob, F0, rfl, hK0⟩; clear q1)
  have q2 := HTk.out 0 4 w1 ob F0 (by omega) fail_0 hK0
  go_upto_region 5 with (go_at_call 16; refine q2.mono ?_; rintro e w2 ⟨⟨x1, x2, x3, rfl⟩, F1, hK1, _, _⟩; clear q2)
  have hA3 : Below w2.heap.size w2 (w2.alloc (.cells #[.int .i64 x1, .int .i64 x2, .int .i64 x3, .int .i64 4] 45)) := (Below.refl _ _).alloc (Nat.le_refl _) _
  have hE3 : (w2.alloc (.cells #[.int .i64 x1, .int .i64 x2, .int .i64 x3, .int .i64 4] 45)).heap[w2.heap.size]? = some (.cells #[.int .i64 x1, .int .i64 x2, .int .i64 x3, .int .i64 4] 45) := World.alloc_heap_new _ _
  have hs3 : (w2.alloc (.cells #[.int .i64 x1, .int .i64 x2, .int .i64 x3, .int .i64 4] 45)).heap.size = w2.heap.size + 1 := by simp
  generalize w2.alloc (.cells #[.int .i64 x1, .int .i64 x2, .int .i64 x3, .int .i64 4] 45) = w3 at hA3 hE3 hs3 ⊢
  have hK3 := CC.frame hK1 (KTouch.of (M := []) hA3) (by simp)
  have q3 := HTk.out 1 4 w3 ob F1 (by omega) fail_1 hK3
  go_upto_region 6 with (go_at_call 16; refine q3.mono ?_; rintro e w4 ⟨⟨y1, y2, y3, rfl⟩, F2, hK4, tk4, hF2⟩; clear q3)
  have hE4 := (tk4.block w2.heap.size (by omega) (fun hm => by have := (CC.ge hK1 _ hm).2; omega)).trans hE3
  have s4 := tk4.size
  have hA5 : Below w4.heap.size w4 (w4.alloc (.cells #[.int .i64 y1, .int .i64 y2, .int .i64 y3, .int .i64 4] 45)) := (Below.refl _ _).alloc (Nat.le_refl _) _
  have hF5 : (w4.alloc (.cells #[.int .i64 y1, .int .i64 y2, .int .i64 y3, .int .i64 4] 45)).heap[w4.heap.size]? = some (.cells #[.int .i64 y1, .int .i64 y2, .int .i64 y3, .int .i64 4] 45) := World.alloc_heap_new _ _
  have hs5 : (w4.alloc (.cells #[.int .i64 y1, .int .i64 y2, .int .i64 y3, .int .i64 4] 45)).heap.size = w4.heap.size + 1 := by simp
  generalize w4.alloc (.cells #[.int .i64 y1, .int .i64 y2, .int .i64 y3, .int .i64 4] 45) = w5 at hA5 hF5 hs5 ⊢
  have hE5 := (hA5.block w2.heap.size (by omega)).trans hE4
  have hK5 := CC.frame hK4 (KTouch.of (M := []) hA5) (by simp)
  have q4 := HTk.out 2 5 w5 ob F2 (by omega) fail_2 hK5
  go_upto_region 7 with (go_at_call 16; refine q4.mono ?_; rintro e w6 ⟨⟨z1, z2, z3, rfl⟩, F3, hK6, tk6, _⟩; clear q4)
  have s6 := tk6.size
  have hE6 := (tk6.block w2.heap.size (by omega) (fun hm => by
    rcases hF2 _ hm with h1 | h1
    · have := (CC.ge hK1 _ h1).2
      omega
    · omega)).trans hE5
  have hF6 := (tk6.block w4.heap.size (by omega) (fun hm => by have := (CC.ge hK4 _ hm).2; omega)).trans hF5
  have hA7 : Below w6.heap.size w6 (w6.alloc (.cells #[.int .i64 z1, .int .i64 z2, .int .i64 z3, .int .i64 5] 45)) := (Below.refl _ _).alloc (Nat.le_refl _) _
  have hG7 : (w6.alloc (.cells #[.int .i64 z1, .int .i64 z2, .int .i64 z3, .int .i64 5] 45)).heap[w6.heap.size]? = some (.cells #[.int .i64 z1, .int .i64 z2, .int .i64 z3, .int .i64 5] 45) := World.alloc_heap_new _ _
  have hs7 : (w6.alloc (.cells #[.int .i64 z1, .int .i64 z2, .int .i64 z3, .int .i64 5] 45)).heap.size = w6.heap.size + 1 := by simp
  generalize w6.alloc (.cells #[.int .i64 z1, .int .i64 z2, .int .i64 z3, .int .i64 5] 45) = w7 at hA7 hG7 hs7 ⊢
  have hE7 := (hA7.block w2.heap.size (by omega)).trans hE6
  have hF7 := (hA7.block w4.heap.size (by omega)).trans hF6
  have hK7 := CC.frame hK6 (KTouch.of (M := []) hA7) (by simp)
  have q5 : Calls Tryd.prog 17 #[.pointer (some ⟨ob, 0, none⟩), .int .i64 0] w7 fun e w' => e = .returned (.tuple #[.int .i64 1, .nilIface]) ∧ Below w7.heap.size w7 w' := by
    refine (CC.times 0 hK7 (failD_ok 3) fail_carE).mono ?_
    rintro e w' ⟨rfl, h⟩
    rw [fail_t.1, fail_t.2]
    exact ⟨rfl, h⟩
  have hx7 := hx0.step (CC.since hK7)
  go_upto_region 10 with (go_at_call 17; refine q5.mono ?_; rintro e w8 ⟨rfl, b8⟩; clear q5; have g1 : w8.cell? ⟨w2.heap.size, 3, none⟩ = some (.int .i64 4) := (b8.cell (p := ⟨w2.heap.size, 3, none⟩) (show w2.heap.size < w7.heap.size by omega)).trans (by simp [World.cell?, hE7]); have g2 : w8.cell? ⟨w4.heap.size, 3, none⟩ = some (.int .i64 4) := (b8.cell (p := ⟨w4.heap.size, 3, none⟩) (show w4.heap.size < w7.heap.size by omega)).trans (by simp [World.cell?, hF7]); have g3 : w8.cell? ⟨w6.heap.size, 3, none⟩ = some (.int .i64 5) := (b8.cell (p := ⟨w6.heap.size, 3, none⟩) (show w6.heap.size < w7.heap.size by omega)).trans (by simp [World.cell?, hG7]))
  have hx8 := hx7.step b8
  clear g1 g2 g3 hE7 hF7 hG7 hE6 hF6 hE5 hF5 hE4 hE3 hK7 hK6 hK5 hK4 hK3 hK1 hK0 tk6 tk4 hF2 hx7 b8 hA7 hA5 hA3 hs7 hs5 hs3 s6 s4 HTk hx0 HG0
  have k0 := hx8.c0
  have k1 := hx8.c1
  have k2 := hx8.c2
  have k3 := hx8.c3
  by_cases hc : carE p what most = 0
  case neg =>
    have HN : Hid (Calls Tryd.prog 15 #[.agg #[.slice ca p.code.length cc, .int .i64 p.ticks, .slice sa p.spans.length sc, .slice wa p.wires.length wc'], .slice ta what.length tc, .int .i64 most] w8 fun e w' => ∃ x, e = .returned (.tuple #[.pointer x, .iface 87 (.int .i64 (carE p what most))]) ∧ Below w8.heap.size w8 w') := by
      have := CC.no p _ _ _ _ what most w8 (HG.out w8 hx8.below) (HP.out.all hx8.below) (HW.out.every hx8.below) hc
      rw [wErr_not hc] at this
      exact this
    generalize carE p what most = z at HN hc
    go_wp2_with (go_at_call 15; refine HN.out.mono ?_; rintro e w9 ⟨x, rfl, b9⟩)
    go_ret
    exact ⟨rfl, (hx8.step b9).below⟩
  have hcz := carE_zero hc
  have hp := hcz.1
  have HLen : Hid (what.length = p.code.length) := hcz.2.1
  have HN : Hid (Calls Tryd.prog 15 #[.agg #[.slice ca p.code.length cc, .int .i64 p.ticks, .slice sa p.spans.length sc, .slice wa p.wires.length wc'], .slice ta what.length tc, .int .i64 most] w8 fun e w' => ∃ cb F, e = .returned (.tuple #[.pointer (some ⟨cb, 0, none⟩), .nilIface]) ∧ CC.K w8 w' p what most (newC p) cb F) := CC.new p _ _ _ _ what most w8 (HG.out w8 hx8.below) (HP.out.all hx8.below) (HW.out.every hx8.below) hc
  have HKn : Hid (∀ W, Below w.heap.size w W → Calls Tryd.prog 18 #[.agg #[.slice ca p.code.length cc, .int .i64 p.ticks, .slice sa p.spans.length sc, .slice wa p.wires.length wc']] W fun e w' => ∃ kb F, e = .returned (.tuple #[.pointer (some ⟨kb, 0, none⟩), .nilIface]) ∧ CK.K W w' p (.slice ca p.code.length cc) (.slice sa p.spans.length sc) (.slice wa p.wires.length wc') (newK p) kb F) := fun W hb => CK.new p _ _ _ W (HG.out W hb) (HP.out.all hb) hp
  have HPg : Hid (∀ W, Below w.heap.size w W → Calls Tryd.prog 19 #[.agg #[.slice ca p.code.length cc, .int .i64 p.ticks, .slice sa p.spans.length sc, .slice wa p.wires.length wc'], .int .i64 r] W fun e w' => ∃ a4 c4 a5 c5 a6 c6, e = .returned (.tuple #[.agg #[.slice a4 (prgP p r).code.length c4, .int .i64 (prgP p r).ticks, .slice a5 (prgP p r).spans.length c5, .slice a6 (prgP p r).wires.length c6], wErr (prgE p r)]) ∧ Pln w' (.slice a4 (prgP p r).code.length c4) (.slice a5 (prgP p r).spans.length c5) (.slice a6 (prgP p r).wires.length c6) (prgP p r) ∧ Below W.heap.size W w') := fun W hb => by
    refine (P p _ _ _ r W (HG.out W hb) (HP.out.all hb)).mono ?_
    rintro e w' ⟨jc, js, jw, rfl, h1, h2⟩
    obtain ⟨a4, c4, rfl⟩ := h1.code.form
    obtain ⟨a5, c5, rfl⟩ := h1.spans.form
    obtain ⟨a6, c6, rfl⟩ := h1.wires.form
    exact ⟨a4, c4, a5, c5, a6, c6, rfl, h1, h2⟩
  clear hcz
  by_cases hz : prgE p r = 0
  case neg =>
    have hout : r < 0 ∨ (p.code.length : Int) ≤ r := by
      unfold prgE at hz
      rw [if_pos hp] at hz
      split at hz
      · rename_i h
        exact h
      · exact absurd rfl hz
    have hcase : decide (r < 0) = true ∨ (decide (r < 0) = false ∧ decide ((p.code.length : Int) ≤ r) = true) := by
      by_cases h : r < 0
      · exact Or.inl (decide_eq_true h)
      · exact Or.inr ⟨decide_eq_false h, decide_eq_true (hout.resolve_left h)⟩
    have HPg2 : Hid (∀ W, Below w.heap.size w W → Calls Tryd.prog 19 #[.agg #[.slice ca p.code.length cc, .int .i64 p.ticks, .slice sa p.spans.length sc, .slice wa p.wires.length wc'], .int .i64 r] W fun e w' => ∃ a4 l4 c4 n5 a5 l5 c5 a6 l6 c6, e = .returned (.tuple #[.agg #[.slice a4 l4 c4, .int .i64 n5, .slice a5 l5 c5, .slice a6 l6 c6], .iface 87 (.int .i64 (prgE p r))]) ∧ Below W.heap.size W w') := fun W hb => by
      refine (HPg.out W hb).mono ?_
      rintro e w' ⟨a4, c4, a5, c5, a6, c6, rfl, _, h2⟩
      rw [wErr_not hz]
      exact ⟨_, _, _, _, _, _, _, _, _, _, rfl, h2⟩
    generalize prgE p r = z at HPg2 hz
    clear HPg hout
    rcases hcase with h1 | ⟨h1, h2⟩
    all_goals
      go_wp2_with (first
        | (go_at_call 15; refine HN.out.mono ?_; rintro e w9 ⟨cb, F, rfl, hK9⟩; clear k0 k1 k2 k3; have hx9 := hx8.step (CC.since hK9); have k0 := hx9.c0; have k1 := hx9.c1; have k2 := hx9.c2; have k3 := hx9.c3; have q9 := HKn.out w9 hx9.below)
        | (go_at_call 18; refine q9.mono ?_; rintro e w10 ⟨kb, H, rfl, hk10⟩; clear q9 k0 k1 k2 k3; have hx10 := hx9.step (CK.since hk10); have k0 := hx10.c0; have k1 := hx10.c1; have k2 := hx10.c2; have k3 := hx10.c3; have q10 := HPg2.out w10 hx10.below)
        | (go_at_call 19; refine q10.mono ?_; rintro e w11 ⟨a4, l4, c4, n5, a5, l5, c5, a6, l6, c6, rfl, b11⟩; clear q10 k0 k1 k2 k3; have hx11 := (hx10.step b11).step ((Below.refl _ w11).alloc (Nat.le_refl _) (.cells #[.slice a4 l4 c4, .int .i64 n5, .slice a5 l5 c5, .slice a6 l6 c6] 26)); have k0 := hx11.c0))
      go_ret
      exact ⟨rfl, hx11.below⟩
  obtain ⟨_, hr0, hr1⟩ := prgE_zero hz
  have HQ : Hid (prgP p r = purgeP p (fun i => way p.wires i r.toNat)) := by
    show _ = _
    unfold prgP
    rw [if_pos hz]
  have hcq : carE (prgP p r) what most = 0 := by
    rw [HQ.out]
    exact purge_carE _ hc
  rw [hz, show wErr 0 = Value.nilIface from rfl] at HPg
  clear hz
  obtain ⟨rn, rfl⟩ : ∃ k : Nat, r = k := ⟨r.toNat, by omega⟩
  rw [Int.toNat_natCast] at HQ
  have hrn : rn < p.code.length := by omega
  have q8 := HN.out
  go_upto_region 17 with (first
    | (go_at_call 15; refine q8.mono ?_; rintro e w9 ⟨cb, F, rfl, hK9⟩; clear q8 k0 k1 k2 k3; have hx9 := hx8.step (CC.since hK9); have k0 := hx9.c0; have k1 := hx9.c1; have k2 := hx9.c2; have k3 := hx9.c3; have q9 := HKn.out w9 hx9.below)
    | (go_at_call 18; refine q9.mono ?_; rintro e w10 ⟨kb, H, rfl, hk10⟩; clear q9 k0 k1 k2 k3; have hx10 := hx9.step (CK.since hk10); have k0 := hx10.c0; have k1 := hx10.c1; have k2 := hx10.c2; have k3 := hx10.c3; have q10 := HPg.out w10 hx10.below)
    | (go_at_call 19; refine q10.mono ?_; rintro e w11 ⟨a4, c4, a5, c5, a6, c6, rfl, hpl11, b11⟩; clear q10))
  have hB12 : Below w11.heap.size w11 (w11.alloc (.cells #[.slice a4 (prgP p rn).code.length c4, .int .i64 (prgP p rn).ticks, .slice a5 (prgP p rn).spans.length c5, .slice a6 (prgP p rn).wires.length c6] 26)) := (Below.refl _ _).alloc (Nat.le_refl _) _
  have m0 : (w11.alloc (.cells #[.slice a4 (prgP p rn).code.length c4, .int .i64 (prgP p rn).ticks, .slice a5 (prgP p rn).spans.length c5, .slice a6 (prgP p rn).wires.length c6] 26)).cell? ⟨w11.heap.size, 0, none⟩ = some (.slice a4 (prgP p rn).code.length c4) := by simp
  have m1 : (w11.alloc (.cells #[.slice a4 (prgP p rn).code.length c4, .int .i64 (prgP p rn).ticks, .slice a5 (prgP p rn).spans.length c5, .slice a6 (prgP p rn).wires.length c6] 26)).cell? ⟨w11.heap.size, 1, none⟩ = some (.int .i64 (prgP p rn).ticks) := by simp
  have m2 : (w11.alloc (.cells #[.slice a4 (prgP p rn).code.length c4, .int .i64 (prgP p rn).ticks, .slice a5 (prgP p rn).spans.length c5, .slice a6 (prgP p rn).wires.length c6] 26)).cell? ⟨w11.heap.size, 2, none⟩ = some (.slice a5 (prgP p rn).spans.length c5) := by simp
  have m3 : (w11.alloc (.cells #[.slice a4 (prgP p rn).code.length c4, .int .i64 (prgP p rn).ticks, .slice a5 (prgP p rn).spans.length c5, .slice a6 (prgP p rn).wires.length c6] 26)).cell? ⟨w11.heap.size, 3, none⟩ = some (.slice a6 (prgP p rn).wires.length c6) := by simp
  have hx12 := (hx10.step b11).step hB12
  have hpl12 := hpl11.all hB12
  have b12 : Below w10.heap.size w10 (w11.alloc (.cells #[.slice a4 (prgP p rn).code.length c4, .int .i64 (prgP p rn).ticks, .slice a5 (prgP p rn).spans.length c5, .slice a6 (prgP p rn).wires.length c6] 26)) := b11.trans (hB12.mono b11.size)
  generalize w11.heap.size = qb at m0 m1 m2 m3 ⊢
  generalize w11.alloc (.cells #[.slice a4 (prgP p rn).code.length c4, .int .i64 (prgP p rn).ticks, .slice a5 (prgP p rn).spans.length c5, .slice a6 (prgP p rn).wires.length c6] 26) = w12 at hB12 m0 m1 m2 m3 hx12 hpl12 b12 ⊢
  have q12 : Calls Tryd.prog 15 #[.agg #[.slice a4 (prgP p rn).code.length c4, .int .i64 (prgP p rn).ticks, .slice a5 (prgP p rn).spans.length c5, .slice a6 (prgP p rn).wires.length c6], .slice ta what.length tc, .int .i64 most] w12 fun e w' => ∃ eb J, e = .returned (.tuple #[.pointer (some ⟨eb, 0, none⟩), .nilIface]) ∧ CC.K w12 w' (purgeP p (fun i => way p.wires i rn)) what most (newC (purgeP p (fun i => way p.wires i rn))) eb J := by
    have := CC.new (prgP p rn) _ _ _ _ what most w12 (HG.out w12 hx12.below) hpl12 (HW.out.every hx12.below) hcq
    rw [HQ.out] at this ⊢
    exact this
  have hcq2 : carE (purgeP p (fun i => way p.wires i rn)) what most = 0 := by
    have := hcq
    rw [HQ.out] at this
    exact this
  have hlb : ((what.length : Int) != (p.code.length : Int)) = false := by rw [HLen.out]; simp
  have hlb2 : (what.length != p.code.length) = false := by rw [HLen.out]; simp
  clear k0 k1 k2 k3
  go_upto_region 20 with (go_at_call 15; refine q12.mono ?_; rintro e w13 ⟨eb, J, rfl, he13⟩; clear q12; have hx13 := hx12.step (CC.since he13); have k0 := hx13.c0)
  have s9 := (CC.since hK9).size
  have s10 := (CK.since hk10).size
  have s12 := b12.size
  have hC3 : C3 CC CK w8 w13 p (purgeP p (fun i => way p.wires i rn)) (.slice ca p.code.length cc) (.slice sa p.spans.length sc) (.slice wa p.wires.length wc') what most (newC p) (newK p) (newC (purgeP p (fun i => way p.wires i rn))) cb kb eb F H J := by
    have e9 := CC.since hK9
    have e10 := CK.since hk10
    refine ⟨CC.frame (CC.frame (CC.frame hK9 (KTouch.of (M := []) e10) (by simp)) (KTouch.of (M := []) b12) (by simp)) (KTouch.of (M := []) (CC.since he13)) (by simp), CK.lower e9 (CK.frame (CK.frame hk10 (KTouch.of (M := []) b12) (by simp)) (KTouch.of (M := []) (CC.since he13)) (by simp)), CC.lower (e9.trans ((e10.trans (b12.mono s10)).mono s9)) he13, fun g hg hm => ?_, fun g hg hm => ?_, fun g hg hm => ?_⟩
    · have := (CC.ge hK9 g hg).2
      have := (CK.ge hk10 g hm).1
      omega
    · have := (CC.ge hK9 g hg).2
      have := (CC.ge he13 g hm).1
      omega
    · have := (CK.ge hk10 g hg).2
      have := (CC.ge he13 g hm).1
      omega
  have hs8 := hx8.size
  have HG8 : Hid (G w8) := HG.out w8 hx8.below
  have KT0' : (newK p).time ≤ ((0 : Nat) : Int) := Int.le_refl _
  have HI0 : Hid (CInv p what most rn (newC p) (newK p) (newC (purgeP p (fun i => way p.wires i rn))) false) := cinv_new rn hc
  clear hK9 hk10 he13 hx9 hx10 hx12 hpl11 hpl12 b11 b12 hB12 m0 m1 m2 m3 k0 s9 s10 s12 hlb hlb2 HKn HPg HN hx8 hcq
  generalize newC p = d0 at *
  generalize newK p = kk0 at *
  generalize newC (purgeP p (fun i => way p.wires i rn)) = ee0 at *
  go_wp2_with fail
  go_loopw [25, 26] (fun s25 s26 wr => ∃ (i : Nat) (d : CD) (k : KD) (e : CD) (b : Bool) (F H J : List Nat), i ≤ 120 ∧ s26 = .int .i64 i ∧ s25 = .bool b ∧ CInv p what most rn d k e b ∧ k.time ≤ (i : Int) ∧ C3 CC CK w8 wr p (purgeP p (fun i => way p.wires i rn)) (.slice ca p.code.length cc) (.slice sa p.spans.length sc) (.slice wa p.wires.length wc') what most d k e cb kb eb F H J ∧ Bx w wr (.slice ca p.code.length cc) p.ticks (.slice sa p.spans.length sc) (.slice wa p.wires.length wc')) (fun _ s _ => 120 - (intOf s).toNat)
  case atStart => exact ⟨0, d0, kk0, ee0, false, F, H, J, Nat.zero_le _, rfl, rfl, HI0.out, KT0', hC3, hx13⟩
  case round =>
  clear hC3 hx13
  obtain ⟨i, d, k, e, b, F1, H1, J1, hi, rfl, rfl, hI, hkt, hC3, hx⟩ := hrel
  by_cases hin : (i : Int) < n
  case neg =>
    have hin' : decide ((i : Int) < n) = false := decide_eq_false hin
    go_wp2
    go_ret
    exact ⟨rfl, hx.below⟩
  by_cases hi12 : i < 120
  case neg =>
    obtain rfl : i = 120 := by omega
    rw [show ((120 : Nat) : Int) = 120 from rfl] at hin
    go_wp2
    go_ret
    exact ⟨rfl, hx.below⟩
  have hi1 : (i : Int) < 120 := by omega
  obtain ⟨hIt, hIe⟩ := cinv_tick hc hI
  obtain ⟨⟨x1, x2, x3, x4⟩, hxe⟩ : ∃ z, evC p what most d = z := ⟨_, rfl⟩
  obtain ⟨⟨y1, y2, y3, y4⟩, hye⟩ : ∃ z, (tickK p p.spans k).2 = z := ⟨_, rfl⟩
  have HT : Hid (Calls Tryd.prog 16 #[.pointer (some ⟨cb, 0, none⟩)] wr fun r w2 => r = .returned (.agg #[.int .i64 x1, .int .i64 x2, .int .i64 x3, .int .i64 x4]) ∧ KTouch F1 wr w2 ∧ ∀ w3, Below w2.heap.size w2 w3 → Calls Tryd.prog 20 #[.pointer (some ⟨kb, 0, none⟩)] w3 fun r w4 => r = .returned (.agg #[.int .i64 y1, .int .i64 y2, .int .i64 y3, .int .i64 y4]) ∧ KTouch H1 w3 w4 ∧ ∀ w5, Below w4.heap.size w4 w5 → Calls Tryd.prog 16 #[.pointer (some ⟨eb, 0, none⟩)] w5 fun r w' => (∃ a b c x, r = .returned (.agg #[.int .i64 a, .int .i64 b, .int .i64 c, .int .i64 x])) ∧ KTouch J1 w5 w' ∧ ∃ F' H' J', C3 CC CK w8 w' p (purgeP p (fun i => way p.wires i rn)) (.slice ca p.code.length cc) (.slice sa p.spans.length sc) (.slice wa p.wires.length wc') what most (tickC p what most d) (tickK p p.spans k).1 (tickC (purgeP p (fun i => way p.wires i rn)) what most e) cb kb eb F' H' J') := by
    have h1 := hI.time
    have h2 := hI.sim.k.time
    have := c3_tick HG8.out hc hcq2 hI.dok hI.kok hI.eok (by omega) (by omega) (by omega) hC3
    rw [hxe, hye] at this
    exact this
  rw [hxe, hye] at hIe
  rw [hxe] at hIt
  have HIt : Hid (CInv p what most rn (tickC p what most d) (tickK p p.spans k).1 (tickC (purgeP p (fun i => way p.wires i rn)) what most e) (b || decide (x4 = 4))) := hIt
  have HIe : Hid ((b || decide (x4 = 4)) = false → (x1, x2, x3, x4) = (y1, y2, y3, y4)) := hIe
  have HKt : Hid ((tickK p p.spans k).1.time ≤ (i : Int) + 1) := by
    show _ ≤ _
    rw [tick_time]
    omega
  have gF := fun g hg => CC.ge hC3.c g hg
  have gH := fun g hg => CK.ge hC3.k g hg
  have gJ := fun g hg => CC.ge hC3.e g hg
  clear hIt hIe hxe hye hI hkt hC3
  have hsx := hx.size
  go_upto_region 25 with (go_at_call 16; refine HT.out.mono ?_; rintro rr w2 ⟨rfl, tk2, hn2⟩)
  clear HT
  have s2 := tk2.size
  have hA3 : Below w2.heap.size w2 (w2.alloc (.cells #[.int .i64 x1, .int .i64 x2, .int .i64 x3, .int .i64 x4] 45)) := (Below.refl _ _).alloc (Nat.le_refl _) _
  have hX3 : (w2.alloc (.cells #[.int .i64 x1, .int .i64 x2, .int .i64 x3, .int .i64 x4] 45)).heap[w2.heap.size]? = some (.cells #[.int .i64 x1, .int .i64 x2, .int .i64 x3, .int .i64 x4] 45) := World.alloc_heap_new _ _
  have s3 : (w2.alloc (.cells #[.int .i64 x1, .int .i64 x2, .int .i64 x3, .int .i64 x4] 45)).heap.size = w2.heap.size + 1 := by simp
  generalize w2.alloc (.cells #[.int .i64 x1, .int .i64 x2, .int .i64 x3, .int .i64 x4] 45) = w3 at hA3 hX3 s3 ⊢
  have HN3 := hn2 w3 hA3
  clear hn2
  go_upto_region 26 with (go_at_call 20; refine HN3.mono ?_; rintro rr w4 ⟨rfl, tk4, hn4⟩; clear HN3)
  have s4 := tk4.size
  have hX4 := (tk4.block w2.heap.size (by omega) (fun hm => by have := (gH _ hm).2; omega)).trans hX3
  have hA5 : Below w4.heap.size w4 (w4.alloc (.cells #[.int .i64 y1, .int .i64 y2, .int .i64 y3, .int .i64 y4] 45)) := (Below.refl _ _).alloc (Nat.le_refl _) _
  have hY5 : (w4.alloc (.cells #[.int .i64 y1, .int .i64 y2, .int .i64 y3, .int .i64 y4] 45)).heap[w4.heap.size]? = some (.cells #[.int .i64 y1, .int .i64 y2, .int .i64 y3, .int .i64 y4] 45) := World.alloc_heap_new _ _
  have s5 : (w4.alloc (.cells #[.int .i64 y1, .int .i64 y2, .int .i64 y3, .int .i64 y4] 45)).heap.size = w4.heap.size + 1 := by simp
  generalize w4.alloc (.cells #[.int .i64 y1, .int .i64 y2, .int .i64 y3, .int .i64 y4] 45) = w5 at hA5 hY5 s5 ⊢
  have hX5 := (hA5.block w2.heap.size (by omega)).trans hX4
  have HN5 := hn4 w5 hA5
  clear hn4
  go_upto_region 27 with (go_at_call 16; refine HN5.mono ?_; rintro rr w6 ⟨⟨za, zb, zc, zd, rfl⟩, tk6, F2, H2, J2, hC6⟩; clear HN5)
  have s6 := tk6.size
  have hX6 := (tk6.block w2.heap.size (by omega) (fun hm => by have := (gJ _ hm).2; omega)).trans hX5
  have hY6 := (tk6.block w4.heap.size (by omega) (fun hm => by have := (gJ _ hm).2; omega)).trans hY5
  have hx6 : Bx w w6 (.slice ca p.code.length cc) p.ticks (.slice sa p.spans.length sc) (.slice wa p.wires.length wc') := Below.trans (Below.trans (Below.trans (Below.trans (Below.trans hx (tk2.below (fun m hm => by have := (gF m hm).1; omega) hx.size)) (hA3.mono (by omega))) (tk4.below (fun m hm => by have := (gH m hm).1; omega) (by omega))) (hA5.mono (by omega))) (tk6.below (fun m hm => by have := (gJ m hm).1; omega) (by omega))
  clear hX5 hX4 hX3 hY5 hA3 hA5 tk2 tk4 tk6 gF gH gJ hx
  have ex3 : w6.cell? ⟨w2.heap.size, 3, none⟩ = some (.int .i64 x4) := by simp [World.cell?, hX6]
  obtain ⟨b', hb'⟩ : ∃ z, (b || decide (x4 = 4)) = z := ⟨_, rfl⟩
  rw [hb'] at HIt HIe
  go_cut [25] from 141 to 250 (fun s25 wx => s25 = .bool b' ∧ wx = w6)
  case first =>
    cases b with
    | true =>
      have HX : Hid (b' = true) := by show _ = _; rw [← hb']; rfl
      clear hb'
      go_wp2_with fail
      go_meet
      case rel => exact ⟨by rw [HX.out], rfl⟩
    | false =>
      have hq : (x4 == 4) = b' := by rw [← hb']; by_cases h : x4 = 4 <;> simp [h]
      clear hb'
      go_wp2_with fail
      go_meet
      case rel => exact ⟨rfl, rfl⟩
  case rest =>
  obtain ⟨rfl, hwx⟩ := hcut
  rw [hwx]
  clear hwx hb' ex3
  go_upto_region 28 with fail
  go_cut [168] from 141 to 250 (fun s168 wx => s168 = .bool false ∧ wx = w6)
  case first =>
    by_cases hbb : b' = true
    · have hq : (!b') = false := by rw [hbb]; rfl
      clear hbb
      go_wp2_with fail
      go_meet
      case rel => exact ⟨rfl, rfl⟩
    · have hb0 : b' = false := by simpa using hbb
      have he := HIe.out hb0
      have hq : (!b') = true := by rw [hb0]; rfl
      clear hbb hb0
      simp only [Prod.mk.injEq] at he
      obtain ⟨rfl, rfl, rfl, rfl⟩ := he
      have ex0 : w6.cell? ⟨w2.heap.size, 0, none⟩ = some (.int .i64 x1) := by simp [World.cell?, hX6]
      have ex1 : w6.cell? ⟨w2.heap.size, 1, none⟩ = some (.int .i64 x2) := by simp [World.cell?, hX6]
      have ex2 : w6.cell? ⟨w2.heap.size, 2, none⟩ = some (.int .i64 x3) := by simp [World.cell?, hX6]
      have ex3 : w6.cell? ⟨w2.heap.size, 3, none⟩ = some (.int .i64 x4) := by simp [World.cell?, hX6]
      have ey0 : w6.cell? ⟨w4.heap.size, 0, none⟩ = some (.int .i64 x1) := by simp [World.cell?, hY6]
      have ey1 : w6.cell? ⟨w4.heap.size, 1, none⟩ = some (.int .i64 x2) := by simp [World.cell?, hY6]
      have ey2 : w6.cell? ⟨w4.heap.size, 2, none⟩ = some (.int .i64 x3) := by simp [World.cell?, hY6]
      have ey3 : w6.cell? ⟨w4.heap.size, 3, none⟩ = some (.int .i64 x4) := by simp [World.cell?, hY6]
      have hev := neq_ev x1 x2 x3 x4
      have hge := guardEv
      go_wp2_with fail
      go_meet
      case rel => exact ⟨rfl, rfl⟩
  case rest =>
  obtain ⟨rfl, hwx⟩ := hcut
  rw [hwx]
  clear hwx hX6 hY6 HIe
  go_step
  obtain ⟨d', hd'⟩ : ∃ z, tickC p what most d = z := ⟨_, rfl⟩
  obtain ⟨k', hk'⟩ : ∃ z, (tickK p p.spans k).1 = z := ⟨_, rfl⟩
  obtain ⟨e', he'⟩ : ∃ z, tickC (purgeP p (fun i => way p.wires i rn)) what most e = z := ⟨_, rfl⟩
  rw [hd', hk', he'] at HIt hC6
  rw [hk'] at HKt
  clear hd' hk' he'
  obtain ⟨r1, r2, r3, r4⟩ := cinv_room HIt.out hrn
  obtain ⟨s, hs⟩ : ∃ z, roomK d'.k rn = z := ⟨_, rfl⟩
  obtain ⟨tm, htm⟩ : ∃ z, timesC d' rn = z := ⟨_, rfl⟩
  have HSc : Hid (∀ W, Below w6.heap.size w6 W → Calls Tryd.prog 21 #[.pointer (some ⟨cb, 0, none⟩), .int .i64 rn] W fun r w' => r = .returned (.tuple #[.agg #[.int .i64 s.p, .int .i64 (s.c 0), .int .i64 (s.c 1), .int .i64 (s.c 2), .int .i64 (s.c 3), .int .i64 (s.c 4), .int .i64 (s.c 5), .bool s.f], .nilIface]) ∧ Below W.heap.size W w') := fun W hb => by
    have := CC.state rn (hC6.all hb).c HIt.out.dok hc
    rw [r1, hs] at this
    exact this
  have HSe : Hid (∀ W, Below w6.heap.size w6 W → Calls Tryd.prog 21 #[.pointer (some ⟨eb, 0, none⟩), .int .i64 rn] W fun r w' => r = .returned (.tuple #[.agg #[.int .i64 s.p, .int .i64 (s.c 0), .int .i64 (s.c 1), .int .i64 (s.c 2), .int .i64 (s.c 3), .int .i64 (s.c 4), .int .i64 (s.c 5), .bool s.f], .nilIface]) ∧ Below W.heap.size W w') := fun W hb => by
    have := CC.state rn (hC6.all hb).e HIt.out.eok hcq2
    rw [r2, r3, hs] at this
    exact this
  have HTc : Hid (∀ W, Below w6.heap.size w6 W → Calls Tryd.prog 17 #[.pointer (some ⟨cb, 0, none⟩), .int .i64 rn] W fun r w' => r = .returned (.tuple #[.int .i64 tm, .nilIface]) ∧ Below W.heap.size W w') := fun W hb => by
    have := CC.times rn (hC6.all hb).c HIt.out.dok hc
    rw [r1, htm] at this
    exact this
  have HTe : Hid (∀ W, Below w6.heap.size w6 W → Calls Tryd.prog 17 #[.pointer (some ⟨eb, 0, none⟩), .int .i64 rn] W fun r w' => r = .returned (.tuple #[.int .i64 tm, .nilIface]) ∧ Below W.heap.size W w') := fun W hb => by
    have := CC.times rn (hC6.all hb).e HIt.out.eok hcq2
    rw [r2, r4, htm] at this
    exact this
  clear r1 r2 r3 r4 hs htm
  have HC6 : Hid (C3 CC CK w8 w6 p (purgeP p (fun i => way p.wires i rn)) (.slice ca p.code.length cc) (.slice sa p.spans.length sc) (.slice wa p.wires.length wc') what most d' k' e' cb kb eb F2 H2 J2) := hC6
  have HX6 : Hid (Bx w w6 (.slice ca p.code.length cc) p.ticks (.slice sa p.spans.length sc) (.slice wa p.wires.length wc')) := hx6
  clear hC6 hx6
  have q30 := HSc.out w6 (Below.refl _ _)
  go_upto_region 31 with (go_at_call 21; refine q30.mono ?_; rintro rr wa ⟨rfl, ba⟩; clear q30)
  have hSa : (wa.alloc (.cells #[.int .i64 s.p, .int .i64 (s.c 0), .int .i64 (s.c 1), .int .i64 (s.c 2), .int .i64 (s.c 3), .int .i64 (s.c 4), .int .i64 (s.c 5), .bool s.f] 39)).heap[wa.heap.size]? = some (.cells #[.int .i64 s.p, .int .i64 (s.c 0), .int .i64 (s.c 1), .int .i64 (s.c 2), .int .i64 (s.c 3), .int .i64 (s.c 4), .int .i64 (s.c 5), .bool s.f] 39) := World.alloc_heap_new _ _
  have bA : Below w6.heap.size w6 (wa.alloc (.cells #[.int .i64 s.p, .int .i64 (s.c 0), .int .i64 (s.c 1), .int .i64 (s.c 2), .int .i64 (s.c 3), .int .i64 (s.c 4), .int .i64 (s.c 5), .bool s.f] 39)) := ba.alloc ba.size _
  have sA : (wa.alloc (.cells #[.int .i64 s.p, .int .i64 (s.c 0), .int .i64 (s.c 1), .int .i64 (s.c 2), .int .i64 (s.c 3), .int .i64 (s.c 4), .int .i64 (s.c 5), .bool s.f] 39)).heap.size = wa.heap.size + 1 := by simp
  generalize wa.alloc (.cells #[.int .i64 s.p, .int .i64 (s.c 0), .int .i64 (s.c 1), .int .i64 (s.c 2), .int .i64 (s.c 3), .int .i64 (s.c 4), .int .i64 (s.c 5), .bool s.f] 39) = wA at hSa bA sA ⊢
  generalize wa.heap.size = sa1 at hSa sA ⊢
  have q31 := HSe.out wA bA
  go_upto_region 32 with (go_at_call 21; refine q31.mono ?_; rintro rr wb ⟨rfl, bb⟩; clear q31)
  have sbb := bb.size
  have hSa2 := (bb.block sa1 (by omega)).trans hSa
  have hSb : (wb.alloc (.cells #[.int .i64 s.p, .int .i64 (s.c 0), .int .i64 (s.c 1), .int .i64 (s.c 2), .int .i64 (s.c 3), .int .i64 (s.c 4), .int .i64 (s.c 5), .bool s.f] 39)).heap[wb.heap.size]? = some (.cells #[.int .i64 s.p, .int .i64 (s.c 0), .int .i64 (s.c 1), .int .i64 (s.c 2), .int .i64 (s.c 3), .int .i64 (s.c 4), .int .i64 (s.c 5), .bool s.f] 39) := World.alloc_heap_new _ _
  have bB : Below w6.heap.size w6 (wb.alloc (.cells #[.int .i64 s.p, .int .i64 (s.c 0), .int .i64 (s.c 1), .int .i64 (s.c 2), .int .i64 (s.c 3), .int .i64 (s.c 4), .int .i64 (s.c 5), .bool s.f] 39)) := (bA.trans (bb.mono bA.size)).alloc (Nat.le_trans bA.size bb.size) _
  have hSa3 := (((Below.refl _ wb).alloc (Nat.le_refl _) (.cells #[.int .i64 s.p, .int .i64 (s.c 0), .int .i64 (s.c 1), .int .i64 (s.c 2), .int .i64 (s.c 3), .int .i64 (s.c 4), .int .i64 (s.c 5), .bool s.f] 39)).block sa1 (by omega)).trans hSa2
  have sB : (wb.alloc (.cells #[.int .i64 s.p, .int .i64 (s.c 0), .int .i64 (s.c 1), .int .i64 (s.c 2), .int .i64 (s.c 3), .int .i64 (s.c 4), .int .i64 (s.c 5), .bool s.f] 39)).heap.size = wb.heap.size + 1 := by simp
  generalize wb.alloc (.cells #[.int .i64 s.p, .int .i64 (s.c 0), .int .i64 (s.c 1), .int .i64 (s.c 2), .int .i64 (s.c 3), .int .i64 (s.c 4), .int .i64 (s.c 5), .bool s.f] 39) = wB at hSb bB hSa3 sB ⊢
  generalize hsb1 : wb.heap.size = sb1 at hSb sB sbb ⊢
  have q32 := HTc.out wB bB
  go_upto_region 33 with (go_at_call 17; refine q32.mono ?_; rintro rr wC ⟨rfl, bC0⟩; clear q32)
  have bC := bB.trans (bC0.mono bB.size)
  have q33 := HTe.out wC bC
  go_upto_region 34 with (go_at_call 17; refine q33.mono ?_; rintro rr wD ⟨rfl, bD0⟩; clear q33)
  have bD := bC.trans (bD0.mono bC.size)
  have bBD := bC0.trans (bD0.mono bC0.size)
  have hSa4 := (bBD.block sa1 (by omega)).trans hSa3
  have hSb4 := (bBD.block sb1 (by omega)).trans hSb
  have ca0 : wD.cell? ⟨sa1, 0, none⟩ = some (.int .i64 s.p) := by simp [World.cell?, hSa4]
  have ca1 : wD.cell? ⟨sa1, 1, none⟩ = some (.int .i64 (s.c 0)) := by simp [World.cell?, hSa4]
  have ca2 : wD.cell? ⟨sa1, 2, none⟩ = some (.int .i64 (s.c 1)) := by simp [World.cell?, hSa4]
  have ca3 : wD.cell? ⟨sa1, 3, none⟩ = some (.int .i64 (s.c 2)) := by simp [World.cell?, hSa4]
  have ca4 : wD.cell? ⟨sa1, 4, none⟩ = some (.int .i64 (s.c 3)) := by simp [World.cell?, hSa4]
  have ca5 : wD.cell? ⟨sa1, 5, none⟩ = some (.int .i64 (s.c 4)) := by simp [World.cell?, hSa4]
  have ca6 : wD.cell? ⟨sa1, 6, none⟩ = some (.int .i64 (s.c 5)) := by simp [World.cell?, hSa4]
  have ca7 : wD.cell? ⟨sa1, 7, none⟩ = some (.bool s.f) := by simp [World.cell?, hSa4]
  have cb0 : wD.cell? ⟨sb1, 0, none⟩ = some (.int .i64 s.p) := by simp [World.cell?, hSb4]
  have cb1 : wD.cell? ⟨sb1, 1, none⟩ = some (.int .i64 (s.c 0)) := by simp [World.cell?, hSb4]
  have cb2 : wD.cell? ⟨sb1, 2, none⟩ = some (.int .i64 (s.c 1)) := by simp [World.cell?, hSb4]
  have cb3 : wD.cell? ⟨sb1, 3, none⟩ = some (.int .i64 (s.c 2)) := by simp [World.cell?, hSb4]
  have cb4 : wD.cell? ⟨sb1, 4, none⟩ = some (.int .i64 (s.c 3)) := by simp [World.cell?, hSb4]
  have cb5 : wD.cell? ⟨sb1, 5, none⟩ = some (.int .i64 (s.c 4)) := by simp [World.cell?, hSb4]
  have cb6 : wD.cell? ⟨sb1, 6, none⟩ = some (.int .i64 (s.c 5)) := by simp [World.cell?, hSb4]
  have cb7 : wD.cell? ⟨sb1, 7, none⟩ = some (.bool s.f) := by simp [World.cell?, hSb4]
  have hnq := neq_st s.p (s.c 0) (s.c 1) (s.c 2) (s.c 3) (s.c 4) (s.c 5) s.f
  have hgd := guardSt
  clear hSa hSa2 hSa3 hSa4 hSb hSb4 bC0 bD0 bBD
  go_upto_region 36 with fail
  clear hnq hgd ca0 cb0 ca1 cb1 ca2 cb2 ca3 cb3 ca4 cb4 ca5 cb5 ca6 cb6 ca7 cb7
  have HBD : Hid (Below w6.heap.size w6 wD) := bD
  go_wp2_with fail
  go_loopw [37] (fun s37 wr2 => ∃ j : Nat, j ≤ what.length ∧ s37 = .int .i64 j ∧ Below w6.heap.size w6 wr2) (fun s _ => what.length - (intOf s).toNat)
  case atStart => exact ⟨0, Nat.zero_le _, rfl, HBD.out⟩
  case round =>
  rename World => wI
  obtain ⟨j, hj, rfl, hbj⟩ := hrel
  by_cases hjl : j < what.length
  case neg =>
    have hjl' : decide ((j : Int) < (what.length : Int)) = false := decide_eq_false (by omega)
    have hjn : decide (j < what.length) = false := decide_eq_false hjl
    go_wp2
    go_roundw
    case rel => exact ⟨i + 1, d', k', e', b', F2, H2, J2, by omega, by go_num, rfl, HIt.out, by have := HKt.out; omega, HC6.out.all hbj, HX6.out.step hbj⟩
    case measure => simp [intOf]; omega
  have hji : (j : Int) < (what.length : Int) := by omega
  have hjp : j < p.code.length := by rw [← HLen.out]; exact hjl
  have hj5 : j < 5 := by have := (plchk_zero hp).1; omega
  have hjt : j < d'.ts.length := by rw [HIt.out.dok.tl]; exact hjp
  have hno : noRoom d'.k j = false := by
    unfold noRoom
    rw [HIt.out.dok.k.rl, Bool.or_eq_false_iff]
    exact ⟨decide_eq_false (by omega), decide_eq_false (by omega)⟩
  obtain ⟨t, ht⟩ : ∃ z, timesC d' j = z := ⟨_, rfl⟩
  have hte : t = d'.ts[j] := by
    rw [← ht]
    unfold timesC
    rw [hno, if_neg (by decide), Int.toNat_natCast]
    simp [List.getD, hjt]
  obtain ⟨t0, t1, t2⟩ := HIt.out.dok.ts j t (by rw [hte]; exact List.getElem?_eq_getElem hjt)
  have hbw := HX6.out.below.trans (hbj.mono HX6.out.below.size)
  obtain ⟨lb, lo, xv, rfl, hxc, hlx⟩ := HW.out.at hbw hjl
  have hwx : what.getD j 0 = xv := by simp [List.getD, hlx]
  rw [hwx] at t2
  have HTj : Hid (Calls Tryd.prog 17 #[.pointer (some ⟨cb, 0, none⟩), .int .i64 j] wI fun r w' => r = .returned (.tuple #[.int .i64 t, .nilIface]) ∧ Below wI.heap.size wI w') := by
    have := CC.times j (HC6.out.all hbj).c HIt.out.dok hc
    rw [hno, ht] at this
    exact this
  have hq1 : decide (t < 0) = false := decide_eq_false (by omega)
  have hq2 : decide (most < t) = false := decide_eq_false (by omega)
  have hlbt : lb < wI.heap.size := World.block_lt_of_cell? wI ⟨lb, lo + j, none⟩ hxc
  clear hno ht hte hlx hwx hjp hjt
  by_cases hx0 : xv = 0
  · obtain rfl : t = 0 := t2 (by omega)
    subst hx0
    clear t0 t1 t2 hq1
    have hq1 : decide ((0 : Int) < 0) = false := rfl
    go_wp2_with (go_at_call 17; refine HTj.out.mono ?_; rintro rr wJ ⟨rfl, bJ⟩; have hxc2 := (bJ.cell (p := ⟨lb, lo + j, none⟩) hlbt).trans hxc)
    go_roundw
    case rel => exact ⟨j + 1, by omega, by go_num, hbj.trans (bJ.mono hbj.size)⟩
    case measure => simp [intOf]; omega
  · have hq3 : (xv == 0) = false := by simpa using hx0
    clear t0 t1 t2 hx0
    go_wp2_with (go_at_call 17; refine HTj.out.mono ?_; rintro rr wJ ⟨rfl, bJ⟩; have hxc2 := (bJ.cell (p := ⟨lb, lo + j, none⟩) hlbt).trans hxc)
    go_roundw
    case rel => exact ⟨j + 1, by omega, by go_num, hbj.trans (bJ.mono hbj.size)⟩
    case measure => simp [intOf]; omega
end Go.Proofs.YtfconbblnmbnpafDoor
namespace Go.Proofs.YtfconbblnmbnpafDoor
open Go.RowKit

/-- Five rows of five, in a block. -/
def Mx (w : World) (b : Nat) (M : Nat → Nat → Bool) : Prop := ∀ i k, i < 5 → k < 5 → w.cell? ⟨b, i * 5 + k, none⟩ = some (.bool (M i k)) ∧ w.frozen? ⟨b, i * 5 + k, none⟩ = false
def mset (M : Nat → Nat → Bool) (i k : Nat) : Nat → Nat → Bool := fun x y => if x = i ∧ y = k then true else M x y
theorem mset_at (M : Nat → Nat → Bool) (i k : Nat) : mset M i k i k = true := by simp [mset]
theorem mset_off (M : Nat → Nat → Bool) {i k x y : Nat} (h : ¬ (x = i ∧ y = k)) : mset M i k x y = M x y := by simp [mset, h]
theorem Mx.set {w : World} {b : Nat} {M : Nat → Nat → Bool} (h : Mx w b M) {i k : Nat} (hi : i < 5) (hk : k < 5) : Mx (w.setCell ⟨b, i * 5 + k, none⟩ (.bool true)) b (mset M i k) := fun x y hx hy => by
  obtain ⟨h1, h2⟩ := h x y hx hy
  obtain ⟨h3, h4⟩ := h i k hi hk
  refine ⟨?_, (World.frozen?_setCell _ _ _ _).trans h2⟩
  by_cases he : x = i ∧ y = k
  · obtain ⟨rfl, rfl⟩ := he
    rw [mset_at]
    simp [go_sem, h1]
  · rw [mset_off _ he]
    rw [World.cell?_setCell_other _ _ _ _ (by intro e; injection e with _ e2; omega)]
    exact h1
theorem Mx.below {w w' : World} {b B : Nat} {M : Nat → Nat → Bool} (h : Mx w b M) (hb : Below B w w') (hB : b < B) : Mx w' b M := fun x y hx hy =>
  ⟨(hb.cell (p := ⟨b, _, none⟩) hB).trans (h x y hx hy).1, (hb.frozen (p := ⟨b, _, none⟩) hB).trans (h x y hx hy).2⟩
theorem Mx.apart {w : World} {b c : Nat} {M : Nat → Nat → Bool} (h : Mx w b M) (hne : b ≠ c) (i : Nat) (u : Value) : Mx (w.setCell ⟨c, i, none⟩ u) b M := fun x y hx hy =>
  ⟨(World.cell?_of_block (w := w) (a := ⟨b, x * 5 + y, none⟩) (Below.heap_setCell _ _ _ _ hne)).trans (h x y hx hy).1, (World.frozen?_setCell _ _ _ _).trans (h x y hx hy).2⟩
theorem Mx.drew {w : World} {b : Nat} {M : Nat → Nat → Bool} (h : Mx w b M) : Mx w.drew b M := h
theorem take_snoc4 {l : List W4} {k : Nat} {x : W4} (h : l[k]? = some x) : l.take (k + 1) = l.take k ++ [x] := by
  obtain ⟨hk, rfl⟩ := List.getElem?_eq_some_iff.1 h
  rw [List.take_succ_eq_append_getElem hk]
theorem Mx.congr {w : World} {b : Nat} {M N : Nat → Nat → Bool} (h : Mx w b M) (he : ∀ x y, x < 5 → y < 5 → M x y = N x y) : Mx w b N := fun x y hx hy => by rw [← he x y hx hy]; exact h x y hx hy
/-- Within one m: between what was and what will be. -/
def Win (e : Nat → Nat → Bool) (m i k : Nat) (M : Nat → Nat → Bool) : Prop := ∀ x y, x < 5 → y < 5 → (pm e m x y = true → M x y = true) ∧ (M x y = true → pm e (m + 1) x y = true) ∧ ((x < i ∨ (x = i ∧ y < k)) → M x y = pm e (m + 1) x y)
theorem Win.start (e : Nat → Nat → Bool) (m : Nat) : Win e m 0 0 (pm e m) := fun x y _ _ => ⟨id, pm_grow, fun h => by omega⟩
theorem Win.line {e : Nat → Nat → Bool} {m i : Nat} {M : Nat → Nat → Bool} (h : Win e m i 5 M) : Win e m (i + 1) 0 M := fun x y hx hy => ⟨(h x y hx hy).1, (h x y hx hy).2.1, fun hh => (h x y hx hy).2.2 (by omega)⟩
theorem Win.last {e : Nat → Nat → Bool} {m : Nat} {M : Nat → Nat → Bool} (h : Win e m 5 0 M) : ∀ x y, x < 5 → y < 5 → M x y = pm e (m + 1) x y := fun x y hx hy => (h x y hx hy).2.2 (by omega)
theorem Win.yes {e : Nat → Nat → Bool} {m i k : Nat} {M : Nat → Nat → Bool} (h : Win e m i k M) (hm : m < 5) (hi : i < 5) (hk : k < 5) (h1 : M i m = true) (h2 : M m k = true) : Win e m i (k + 1) (mset M i k) := by
  have hv : pm e (m + 1) i k = true := pm_via (pm_col ((h i m hi hm).2.1 h1)) (pm_row ((h m k hm hk).2.1 h2))
  intro x y hx hy
  by_cases he : x = i ∧ y = k
  · obtain ⟨rfl, rfl⟩ := he
    rw [mset_at]
    exact ⟨fun _ => rfl, fun _ => hv, fun _ => hv.symm⟩
  · rw [mset_off _ he]
    exact ⟨(h x y hx hy).1, (h x y hx hy).2.1, fun hh => (h x y hx hy).2.2 (by omega)⟩
theorem Win.no {e : Nat → Nat → Bool} {m i k : Nat} {M : Nat → Nat → Bool} (h : Win e m i k M) (hm : m < 5) (hi : i < 5) (hk : k < 5) (h0 : ¬ (M i m = true ∧ M m k = true)) : Win e m i (k + 1) M := by
  intro x y hx hy
  refine ⟨(h x y hx hy).1, (h x y hx hy).2.1, fun hh => ?_⟩
  by_cases he : x = i ∧ y = k
  · obtain ⟨rfl, rfl⟩ := he
    cases hM : M x y with
    | true => exact ((h x y hx hy).2.1 hM).symm
    | false =>
      cases hp : pm e (m + 1) x y with
      | false => rfl
      | true =>
        rcases pm_cases hp with a | ⟨a, b⟩
        · rw [(h x y hx hy).1 a] at hM; cases hM
        · exact absurd ⟨(h x m hx hm).1 a, (h m y hm hy).1 b⟩ h0
  · exact (h x y hx hy).2.2 (by omega)
theorem edge_snoc (l : List W4) (f t k d : Int) (i j : Nat) (hi : f = (i : Int)) (hj : t = (j : Int)) : ∀ x y, mset (edge l) i j x y = edge (l ++ [(f, t, k, d)]) x y := fun x y => by
  subst hi
  subst hj
  by_cases he : x = i ∧ y = j
  · obtain ⟨rfl, rfl⟩ := he
    rw [mset_at, edge_wire (x := ((x : Int), (y : Int), k, d)) (by simp) rfl rfl]
  · rw [mset_off _ he]
    simp only [edge, List.any_append, List.any_cons, List.any_nil, Bool.or_false]
    have : (decide ((i : Int) = (x : Int)) && decide ((j : Int) = (y : Int))) = false := by
      rw [Bool.and_eq_false_iff]
      by_cases h1 : x = i
      · right; simp; omega
      · left; simp; omega
    rw [this]
    simp
/-- The diagonal, so far. -/
def dg (n : Nat) : Nat → Nat → Bool := fun x y => decide (x = y) && decide (x < n)
theorem dg_succ (n : Nat) : ∀ x y, mset (dg n) n n x y = dg (n + 1) x y := fun x y => by
  by_cases he : x = n ∧ y = n
  · obtain ⟨rfl, rfl⟩ := he
    rw [mset_at]; simp [dg]
  · rw [mset_off _ he]
    unfold dg
    by_cases hxy : x = y
    · have : x ≠ n := fun h => he ⟨h, hxy ▸ h⟩
      simp only [hxy, decide_true, Bool.true_and, decide_eq_decide]
      omega
    · simp [hxy]
theorem dg_five : ∀ x y, x < 5 → y < 5 → dg 5 x y = edge [] x y := fun x y hx _ => by simp [dg, edge, hx]

/-- All ways as cells. -/
def wayCells (l : List W4) : List Value := (List.range 25).map fun j => .bool (way l (j / 5) (j % 5))
theorem way_one (l : List W4) : (wayCells l).toArray.all (·.oneCell') = true := all_oneCell_toArray fun v hv => by
  obtain ⟨x, _, rfl⟩ := List.mem_map.1 hv
  rfl
theorem Mx.range {w : World} {b : Nat} {l : List W4} (h : Mx w b (pm (edge l) 5)) : w.rangeAt b 0 (wayCells l) := fun j v hv => by
  have hj : j < 25 := by
    have := (List.getElem?_eq_some_iff.1 hv).1
    simpa [wayCells] using this
  have hv' : v = .bool (way l (j / 5) (j % 5)) := by
    simp only [wayCells, List.getElem?_map, List.getElem?_range hj, Option.map_some, Option.some.injEq] at hv
    exact hv.symm
  have := (h (j / 5) (j % 5) (by omega) (by omega)).1
  rw [show j / 5 * 5 + j % 5 = j by omega] at this
  rw [Nat.zero_add, hv', this]
  rfl
theorem Mx.there {w : World} {b : Nat} {M : Nat → Nat → Bool} (h : Mx w b M) : w.there b 0 25 := fun j hj => by
  have := h (j / 5) (j % 5) (by omega) (by omega)
  rw [show j / 5 * 5 + j % 5 = j by omega] at this
  rw [Nat.zero_add]
  exact ⟨by rw [this.1]; rfl, this.2⟩
theorem below_cells {B : Nat} {w0 w : World} (h : Below B w0 w) {b : Nat} (hb : B ≤ b) : ∀ (vs : List Value) (o : Nat), Below B w0 (w.setCells b o vs) := fun vs => by
  revert w
  induction vs with
  | nil => intro w h o; exact h
  | cons v r ih => intro w h o; exact ih (h.setCell (p := ⟨b, o, none⟩) hb v) (o + 1)
/-- One result that lies in memory. -/
theorem results_cell {P : Program} {fn : Func} {tmps : Array Value} {w : World} {s : Nat} {t : TypeId} {ad : Addr} {v : Value} (hf : fn.results = #[.cell s t]) (ha : tmps.getD s undef = .pointer (some ad)) (hl : (loadVar t ad).run P w = .ok v w) : (results fn tmps).run P w = .ok v w := by
  unfold results
  rw [hf]
  have e : ∀ f : ResultVar → Sem Value, Array.mapM f #[ResultVar.cell s t] = (do let x ← f (.cell s t); pure #[x]) := fun f => by simp [Array.mapM_eq_mapM_toList]
  rw [e]
  simp only [ha, asAddr, Sem.run_bind, Sem.run_pure, Result.andThen_ok, hl]
  simp
theorem five {P : Nat → Prop} (h0 : P 0) (h1 : P 1) (h2 : P 2) (h3 : P 3) (h4 : P 4) : ∀ x, x < 5 → P x
  | 0, _ => h0
  | 1, _ => h1
  | 2, _ => h2
  | 3, _ => h3
  | 4, _ => h4
  | n + 5, h => by omega
end Go.Proofs.YtfconbblnmbnpafDoor
namespace Go.Proofs.YtfconbblnmbnpafDoor
open Go.RowKit

/-- Five in a block. -/
def Rw (w : World) (b : Nat) (M : Nat → Bool) : Prop := ∀ k, k < 5 → w.cell? ⟨b, k, none⟩ = some (.bool (M k)) ∧ w.frozen? ⟨b, k, none⟩ = false
/-- Five as a value. -/
def rwV (M : Nat → Bool) : Value := .agg #[.bool (M 0), .bool (M 1), .bool (M 2), .bool (M 3), .bool (M 4)]
def upto (k : Nat) (A B : Nat → Bool) : Nat → Bool := fun x => if x < k then (A x || B x) else A x
theorem upto_here (k : Nat) (A B : Nat → Bool) : upto k A B k = A k := by simp [upto]
theorem upto_zero (A B : Nat → Bool) : upto 0 A B = A := by funext x; simp [upto]
theorem upto_five (A B : Nat → Bool) {x : Nat} (h : x < 5) : upto 5 A B x = (A x || B x) := by simp [upto, h]
theorem Rw.set {w : World} {b : Nat} {M N : Nat → Bool} (h : Rw w b M) {k : Nat} {c : Bool} (hk : k < 5) (hc : N k = c) (hn : ∀ x, x ≠ k → N x = M x) : Rw (w.setCell ⟨b, k, none⟩ (.bool c)) b N := fun x hx => by
  obtain ⟨h1, h2⟩ := h x hx
  refine ⟨?_, (World.frozen?_setCell _ _ _ _).trans h2⟩
  by_cases he : x = k
  · subst he
    rw [hc]
    simp [go_sem, h1]
  · rw [hn x he, World.cell?_setCell_other _ _ _ _ (by intro e; injection e with _ e2; exact he e2.symm)]
    exact h1
theorem Rw.next {w : World} {b : Nat} {A B : Nat → Bool} {k : Nat} (h : Rw w b (upto k A B)) (hk : k < 5) {c : Bool} (hc : c = (A k || B k)) : Rw (w.setCell ⟨b, k, none⟩ (.bool c)) b (upto (k + 1) A B) :=
  h.set hk (by simp [upto, hc]) (fun x hx => by unfold upto; by_cases h1 : x < k; rw [if_pos (by omega), if_pos h1]; rw [if_neg (by omega), if_neg h1])
theorem Rw.apart {w : World} {b c : Nat} {M : Nat → Bool} (h : Rw w b M) (hne : b ≠ c) (i : Nat) (u : Value) : Rw (w.setCell ⟨c, i, none⟩ u) b M := fun x hx =>
  ⟨(World.cell?_of_block (w := w) (a := ⟨b, x, none⟩) (Below.heap_setCell _ _ _ _ hne)).trans (h x hx).1, (World.frozen?_setCell _ _ _ _).trans (h x hx).2⟩
theorem Rw.new (w : World) (M : Nat → Bool) (t : TypeId) : Rw (w.alloc (.cells #[.bool (M 0), .bool (M 1), .bool (M 2), .bool (M 3), .bool (M 4)] t)) w.heap.size M := by
  refine five ?_ ?_ ?_ ?_ ?_ <;> simp
theorem Rw.new_at {w : World} {b : Nat} (hb : b = w.heap.size) (M : Nat → Bool) (t : TypeId) : Rw (w.alloc (.cells #[.bool (M 0), .bool (M 1), .bool (M 2), .bool (M 3), .bool (M 4)] t)) b M := by
  subst hb
  exact Rw.new w M t
theorem Rw.alloc {w : World} {b : Nat} {M : Nat → Bool} (h : Rw w b M) (hb : b < w.heap.size) (o : Obj) : Rw (w.alloc o) b M := fun x hx => by
  have hB : Below w.heap.size w (w.alloc o) := (Below.refl _ _).alloc (Nat.le_refl _) _
  exact ⟨(hB.cell (p := ⟨b, _, none⟩) hb).trans (h x hx).1, (hB.frozen (p := ⟨b, _, none⟩) hb).trans (h x hx).2⟩
set_option maxRecDepth 100000 in
theorem index_row (M : Nat → Bool) : ∀ (k : Nat), k < 5 → ∀ w : World, (Instr.index 137 (.agg #[.bool (M 0), .bool (M 1), .bool (M 2), .bool (M 3), .bool (M 4)]) (.int .i64 (k : Int))).run Tryd.prog w = .ok (.bool (M k)) w := by
  refine five ?_ ?_ ?_ ?_ ?_ <;> exact fun _ => by kernel_rfl

set_option maxRecDepth 100000 in
set_option maxHeartbeats 4000000 in
theorem either_any (A B : Nat → Bool) (w : World) :
    Calls Tryd.prog 89 #[rwV A, rwV B] w fun e w' => e = .returned (rwV fun x => A x || B x) ∧ Below w.heap.size w w' := by
  unfold rwV
  go_enter Tryd.func89, Tryd.ntmps89
  go_wp2
  go_loopw [8] (fun i wr => ∃ k : Nat, k ≤ 5 ∧ i = .int .i64 k ∧ Rw wr w.heap.size (upto k A B) ∧ Rw wr (w.heap.size + 2) (fun _ => false) ∧ Below w.heap.size w wr ∧ w.heap.size + 3 ≤ wr.heap.size) (fun i _ => 5 - (intOf i).toNat)
  case atStart =>
    refine ⟨0, Nat.zero_le _, rfl, ?_, ?_, (((Below.refl _ _).alloc (Nat.le_refl _) _).alloc (by simp) _).alloc (by simp; omega) _, by simp⟩
    · rw [upto_zero]
      exact ((Rw.new w A 137).alloc (by simp) _).alloc (by simp; omega) _
    · exact Rw.new_at (by simp) (fun _ => false) 137
  case round =>
    obtain ⟨k, hk, rfl, hM, hZ, hB, hsz⟩ := hrel
    have HM : Hid (Rw wr w.heap.size (upto k A B)) := hM
    have HZ : Hid (Rw wr (w.heap.size + 2) (fun _ => false)) := hZ
    clear hM hZ
    by_cases hk5 : k < 5
    · have hki : (k : Int) < 5 := by omega
      have hix := index_row B k hk5
      obtain ⟨c, f⟩ := HM.out k hk5
      rw [upto_here] at c
      have hA : A k = true ∨ A k = false := by cases A k <;> simp
      rcases hA with hA | hA
      · rw [hA] at c
        have HC : Hid (true = (A k || B k)) := by show _ = _; rw [hA]; rfl
        clear hA
        go_wp2
        go_roundw
        case rel => exact ⟨k + 1, by omega, by go_num, HM.out.next hk5 HC.out, HZ.out.apart (by omega) _ _, hB.setCell (p := ⟨w.heap.size, _, none⟩) (Nat.le_refl _) _, by simpa using hsz⟩
        case measure => simp [intOf]; omega
      · rw [hA] at c
        have HC : Hid (B k = (A k || B k)) := by show _ = _; rw [hA]; rfl
        clear hA
        go_wp2
        go_roundw
        case rel => exact ⟨k + 1, by omega, by go_num, HM.out.next hk5 HC.out, HZ.out.apart (by omega) _ _, hB.setCell (p := ⟨w.heap.size, _, none⟩) (Nat.le_refl _) _, by simpa using hsz⟩
        case measure => simp [intOf]; omega
    · obtain rfl : k = 5 := by omega
      obtain ⟨c0, _⟩ := HM.out 0 (by omega)
      obtain ⟨c1, _⟩ := HM.out 1 (by omega)
      obtain ⟨c2, _⟩ := HM.out 2 (by omega)
      obtain ⟨c3, _⟩ := HM.out 3 (by omega)
      obtain ⟨c4, _⟩ := HM.out 4 (by omega)
      rw [upto_five _ _ (by omega)] at c0 c1 c2 c3 c4
      obtain ⟨d0, f0⟩ := HZ.out 0 (by omega)
      obtain ⟨d1, f1⟩ := HZ.out 1 (by omega)
      obtain ⟨d2, f2⟩ := HZ.out 2 (by omega)
      obtain ⟨d3, f3⟩ := HZ.out 3 (by omega)
      obtain ⟨d4, f4⟩ := HZ.out 4 (by omega)
      clear HM HZ
      go_wp2
      refine bodyPost_ret (v := .agg #[.bool (A 0 || B 0), .bool (A 1 || B 1), .bool (A 2 || B 2), .bool (A 3 || B 3), .bool (A 4 || B 4)]) ?_ rfl ⟨rfl, ?_⟩
      · simp [results, Tryd.results89, go_sem, d0, d1, d2, d3, d4]
      exact ((((hB.setCell (p := ⟨w.heap.size + 2, _, none⟩) (by simp) _).setCell (p := ⟨w.heap.size + 2, _, none⟩) (by simp) _).setCell (p := ⟨w.heap.size + 2, _, none⟩) (by simp) _).setCell (p := ⟨w.heap.size + 2, _, none⟩) (by simp) _).setCell (p := ⟨w.heap.size + 2, _, none⟩) (by simp) _
end Go.Proofs.YtfconbblnmbnpafDoor
namespace Go.Proofs.YtfconbblnmbnpafDoor
open Go.RowKit

/-- A row of five put in. -/
def rset (M : Nat → Nat → Bool) (i : Nat) (A : Nat → Bool) : Nat → Nat → Bool := fun x y => if x = i then A y else M x y
theorem Mx.row {w : World} {b : Nat} {M : Nat → Nat → Bool} (h : Mx w b M) {i : Nat} (hi : i < 5) (A : Nat → Bool) :
    Mx (((((w.setCell ⟨b, i * 5, none⟩ (.bool (A 0))).setCell ⟨b, i * 5 + 1, none⟩ (.bool (A 1))).setCell ⟨b, i * 5 + 2, none⟩ (.bool (A 2))).setCell ⟨b, i * 5 + 3, none⟩ (.bool (A 3))).setCell ⟨b, i * 5 + 4, none⟩ (.bool (A 4))) b (rset M i A) := fun x y hx hy => by
  obtain ⟨h1, h2⟩ := h x y hx hy
  refine ⟨?_, by simpa using h2⟩
  by_cases he : x = i
  · subst he
    have e : rset M x A x y = A y := by simp [rset]
    rw [e]
    have g0 := (h x 0 hi (by omega)).1
    have g1 := (h x 1 hi (by omega)).1
    have g2 := (h x 2 hi (by omega)).1
    have g3 := (h x 3 hi (by omega)).1
    have g4 := (h x 4 hi (by omega)).1
    rw [Nat.add_zero] at g0
    obtain rfl | rfl | rfl | rfl | rfl : y = 0 ∨ y = 1 ∨ y = 2 ∨ y = 3 ∨ y = 4 := by omega
    all_goals simp [go_sem, g0, g1, g2, g3, g4]
  · have e : rset M i A x y = M x y := by simp [rset, he]
    rw [e]
    rw [World.cell?_setCell_other _ _ _ _ (by intro e; injection e with _ e2; omega), World.cell?_setCell_other _ _ _ _ (by intro e; injection e with _ e2; omega), World.cell?_setCell_other _ _ _ _ (by intro e; injection e with _ e2; omega), World.cell?_setCell_other _ _ _ _ (by intro e; injection e with _ e2; omega), World.cell?_setCell_other _ _ _ _ (by intro e; injection e with _ e2; omega)]
    exact h1
theorem Mx.apart5 {w : World} {b c : Nat} {M : Nat → Nat → Bool} (h : Mx w b M) (hne : b ≠ c) (i0 i1 i2 i3 i4 : Nat) (u0 u1 u2 u3 u4 : Value) :
    Mx (((((w.setCell ⟨c, i0, none⟩ u0).setCell ⟨c, i1, none⟩ u1).setCell ⟨c, i2, none⟩ u2).setCell ⟨c, i3, none⟩ u3).setCell ⟨c, i4, none⟩ u4) b M :=
  ((((h.apart hne _ _).apart hne _ _).apart hne _ _).apart hne _ _).apart hne _ _
theorem Mx.alloc {w : World} {b : Nat} {M : Nat → Nat → Bool} (h : Mx w b M) (hb : b < w.heap.size) (o : Obj) : Mx (w.alloc o) b M :=
  h.below (B := w.heap.size) ((Below.refl _ _).alloc (Nat.le_refl _) _) hb
/-- A row that takes over what another one reaches. -/
theorem Win.took {e : Nat → Nat → Bool} {m i : Nat} {M : Nat → Nat → Bool} (h : Win e m i 0 M) (hm : m < 5) (hi : i < 5) (h1 : M i m = true) : Win e m (i + 1) 0 (rset M i fun y => M i y || M m y) := by
  intro x y hx hy
  by_cases he : x = i
  · subst he
    have ev : rset M x (fun y => M x y || M m y) x y = (M x y || M m y) := by simp [rset]
    rw [ev]
    have hup : (M x y || M m y) = true → pm e (m + 1) x y = true := fun hh => by
      rw [Bool.or_eq_true] at hh
      rcases hh with a | a
      · exact (h x y hx hy).2.1 a
      · exact pm_via (pm_col ((h x m hx hm).2.1 h1)) (pm_row ((h m y hm hy).2.1 a))
    refine ⟨fun hp => by rw [(h x y hx hy).1 hp]; rfl, hup, fun _ => ?_⟩
    cases hq : (M x y || M m y) with
    | true => exact (hup hq).symm
    | false =>
      cases hp : pm e (m + 1) x y with
      | false => rfl
      | true =>
        rw [Bool.or_eq_false_iff] at hq
        rcases pm_cases hp with a | ⟨_, b⟩
        · rw [(h x y hx hy).1 a] at hq; cases hq.1
        · rw [(h m y hm hy).1 b] at hq; cases hq.2
  · have ev : rset M i (fun y => M i y || M m y) x y = M x y := by simp [rset, he]
    rw [ev]
    exact ⟨(h x y hx hy).1, (h x y hx hy).2.1, fun hh => (h x y hx hy).2.2 (by omega)⟩
theorem Win.left {e : Nat → Nat → Bool} {m i : Nat} {M : Nat → Nat → Bool} (h : Win e m i 0 M) (hm : m < 5) (hi : i < 5) (h1 : M i m = false) : Win e m (i + 1) 0 M := by
  intro x y hx hy
  refine ⟨(h x y hx hy).1, (h x y hx hy).2.1, fun hh => ?_⟩
  by_cases he : x = i
  · subst he
    cases hM : M x y with
    | true => exact ((h x y hx hy).2.1 hM).symm
    | false =>
      cases hp : pm e (m + 1) x y with
      | false => rfl
      | true =>
        rcases pm_cases hp with a | ⟨a, _⟩
        · rw [(h x y hx hy).1 a] at hM; cases hM
        · rw [(h x m hx hm).1 a] at h1; cases h1
  · exact (h x y hx hy).2.2 (by omega)

set_option maxRecDepth 100000 in
set_option maxHeartbeats 8000000 in
theorem reached_any (l : List W4) (v : Value) (w : World) (hl : Wrs w v l) (hlen : l.length ≤ 12) (hok : ∀ x ∈ l, w4chk x = 0) :
    Calls Tryd.prog 67 #[v] w fun e w' => e = .returned (.agg (wayCells l).toArray) ∧ Below w.heap.size w w' := by
  obtain ⟨ao, cap, rfl⟩ := hl.form
  have HL : Hid (Wrs w (.slice ao l.length cap) l) := hl
  have HK : Hid (∀ x ∈ l, w4chk x = 0) := hok
  clear hl hok
  go_enter Tryd.func67, Tryd.ntmps67
  go_wp2
  go_loopw [9] (fun i wr => ∃ k : Nat, k ≤ 5 ∧ i = .int .i64 k ∧ Mx wr (w.heap.size + 1) (dg k) ∧ Mx wr w.heap.size (dg 0) ∧ Below w.heap.size w wr ∧ w.heap.size + 2 ≤ wr.heap.size) (fun i _ => 5 - (intOf i).toNat)
  case atStart =>
    refine ⟨0, Nat.zero_le _, rfl, ?_, ?_, ((Below.refl _ _).alloc (Nat.le_refl _) _).alloc (by simp) _, by simp⟩
    · intro x y hx hy
      revert y
      revert x
      refine five ?_ ?_ ?_ ?_ ?_ <;> refine five ?_ ?_ ?_ ?_ ?_ <;> simp [dg]
    · intro x y hx hy
      revert y
      revert x
      refine five ?_ ?_ ?_ ?_ ?_ <;> refine five ?_ ?_ ?_ ?_ ?_ <;> simp [dg]
  case round =>
    obtain ⟨k, hk, rfl, hM, hZ, hB, hsz⟩ := hrel
    have HM : Hid (Mx wr (w.heap.size + 1) (dg k)) := hM
    have HZ : Hid (Mx wr w.heap.size (dg 0)) := hZ
    clear hM hZ
    by_cases hk5 : k < 5
    · have hki : (k : Int) < 5 := by omega
      obtain ⟨c, f⟩ := HM.out k k hk5 hk5
      go_wp2
      go_roundw
      case rel => exact ⟨k + 1, by omega, by go_num, (HM.out.set hk5 hk5).congr (fun x y _ _ => dg_succ k x y), HZ.out.apart (by omega) _ _, hB.setCell (p := ⟨w.heap.size + 1, _, none⟩) (Nat.le_succ _) _, by simpa using hsz⟩
      case measure => simp [intOf]; omega
    · obtain rfl : k = 5 := by omega
      rw [show ((5 : Nat) : Int) = 5 from rfl]
      have HE : Hid (Mx wr (w.heap.size + 1) (edge (l.take 0))) := HM.out.congr (fun x y hx hy => by rw [List.take_zero]; exact dg_five x y hx hy)
      clear HM
      go_wp2
      rename World => wo
      go_loopw [19] (fun i wr => ∃ k : Nat, k ≤ l.length ∧ i = .int .i64 k ∧ Mx wr (w.heap.size + 1) (edge (l.take k)) ∧ Mx wr w.heap.size (dg 0) ∧ Below w.heap.size w wr ∧ w.heap.size + 2 ≤ wr.heap.size) (fun i _ => l.length - (intOf i).toNat)
      case atStart => exact ⟨0, Nat.zero_le _, rfl, HE.out, HZ.out, hB, hsz⟩
      case round =>
        clear HE HZ hB hsz
        obtain ⟨k, hk, rfl, hM, hZ, hB, hsz⟩ := hrel
        have HM : Hid (Mx wr (w.heap.size + 1) (edge (l.take k))) := hM
        have HZ : Hid (Mx wr w.heap.size (dg 0)) := hZ
        clear hM hZ
        by_cases hkl : k < l.length
        · have hki : (k : Int) < (l.length : Int) := by omega
          obtain ⟨b, off, f, t, kd, d, rfl, hlt, hx, c0, c1, c2, c3⟩ := HL.out.at hkl
          have hr := w4_rooms (HK.out _ (List.mem_of_getElem? hx))
          simp only at hr
          obtain ⟨fi, rfl⟩ : ∃ n : Nat, f = n := ⟨f.toNat, by omega⟩
          obtain ⟨ti, rfl⟩ : ∃ n : Nat, t = n := ⟨t.toNat, by omega⟩
          obtain ⟨_, hf5, _, ht5, _⟩ := hr
          have HX : Hid (l[k]? = some ((fi : Int), (ti : Int), kd, d)) := hx
          have hf5' : (fi : Int) < 5 := hf5
          have ht5' : (ti : Int) < 5 := ht5
          have hfn : fi < 5 := by omega
          have htn : ti < 5 := by omega
          replace c0 := (hB.cell (p := ⟨b, _, none⟩) hlt).trans c0
          replace c1 := (hB.cell (p := ⟨b, _, none⟩) hlt).trans c1
          replace c2 := (hB.cell (p := ⟨b, _, none⟩) hlt).trans c2
          replace c3 := (hB.cell (p := ⟨b, _, none⟩) hlt).trans c3
          obtain ⟨c, fz⟩ := HM.out fi ti hfn htn
          have hne1 : w.heap.size + 1 < wr.heap.size := by omega
          clear hx
          go_wp2
          go_region
          all_goals go_wp2
          all_goals go_roundw
          case rel =>
            refine ⟨k + 1, by omega, by go_num, ?_, ((HZ.out.apart (by omega) _ _).alloc (by simp; omega) _).drew, ((hB.setCell (p := ⟨w.heap.size + 1, _, none⟩) (Nat.le_succ _) _).alloc (by simp; omega) _).drew, by simp; omega⟩
            refine (((HM.out.set hfn htn).congr (fun x y _ _ => ?_)).alloc (by simp; omega) _).drew
            rw [edge_snoc (l.take k) fi ti kd d fi ti rfl rfl, ← take_snoc4 HX.out]
          case measure => simp [intOf]; omega
        · obtain rfl : k = l.length := by omega
          have hki : decide ((l.length : Int) < (l.length : Int)) = false := by simp
          have HE : Hid (Mx wr (w.heap.size + 1) (pm (edge l) 0)) := HM.out.congr (fun x y _ _ => by rw [List.take_length]; rfl)
          clear HM
          go_wp2
          rename World => wp
          go_loopw [30] (fun i wr => ∃ m : Nat, m ≤ 5 ∧ i = .int .i64 m ∧ Mx wr (w.heap.size + 1) (pm (edge l) m) ∧ Mx wr w.heap.size (dg 0) ∧ Below w.heap.size w wr ∧ w.heap.size + 2 ≤ wr.heap.size) (fun i _ => 5 - (intOf i).toNat)
          case atStart => exact ⟨0, Nat.zero_le _, rfl, HE.out, HZ.out, hB, hsz⟩
          case round =>
            clear HE HZ hB hsz
            obtain ⟨m, hm, rfl, hM, hZ, hB, hsz⟩ := hrel
            have HM : Hid (Mx wr (w.heap.size + 1) (pm (edge l) m)) := hM
            have HZ : Hid (Mx wr w.heap.size (dg 0)) := hZ
            clear hM hZ
            by_cases hm5 : m < 5
            · have hmi : (m : Int) < 5 := by omega
              go_wp2
              rename World => wq
              go_loopw [33] (fun i wr => ∃ (i' : Nat) (M : Nat → Nat → Bool), i' ≤ 5 ∧ i = .int .i64 i' ∧ Win (edge l) m i' 0 M ∧ Mx wr (w.heap.size + 1) M ∧ Mx wr w.heap.size (dg 0) ∧ Below w.heap.size w wr ∧ w.heap.size + 2 ≤ wr.heap.size) (fun i _ => 5 - (intOf i).toNat)
              case atStart => exact ⟨0, _, Nat.zero_le _, rfl, Win.start _ m, HM.out, HZ.out, hB, hsz⟩
              case round =>
                clear HM HZ hB hsz
                obtain ⟨i, M, hi, rfl, hW, hM, hZ, hB, hsz⟩ := hrel
                have HW : Hid (Win (edge l) m i 0 M) := hW
                have HM : Hid (Mx wr (w.heap.size + 1) M) := hM
                have HZ : Hid (Mx wr w.heap.size (dg 0)) := hZ
                clear hM hZ hW
                by_cases hi5 : i < 5
                · have hii : (i : Int) < 5 := by omega
                  obtain ⟨c1, _⟩ := HM.out i m hi5 hm5
                  cases h1 : M i m with
                  | false =>
                    have H1 : Hid (M i m = false) := h1
                    rw [h1] at c1
                    clear h1
                    go_wp2
                    go_roundw
                    case rel => exact ⟨i + 1, M, by omega, by go_num, HW.out.left hm5 hi5 H1.out, HM.out, HZ.out, hB, hsz⟩
                    case measure => simp [intOf]; omega
                  | true =>
                    have H1 : Hid (M i m = true) := h1
                    have c1' := c1
                    rw [h1] at c1'
                    clear h1 c1
                    go_upto_region 19 with fail
                    obtain ⟨a0, f0⟩ := HM.out i 0 hi5 (by omega)
                    obtain ⟨a1, f1⟩ := HM.out i 1 hi5 (by omega)
                    obtain ⟨a2, f2⟩ := HM.out i 2 hi5 (by omega)
                    obtain ⟨a3, f3⟩ := HM.out i 3 hi5 (by omega)
                    obtain ⟨a4, f4⟩ := HM.out i 4 hi5 (by omega)
                    obtain ⟨b0, _⟩ := HM.out m 0 hm5 (by omega)
                    obtain ⟨b1, _⟩ := HM.out m 1 hm5 (by omega)
                    obtain ⟨b2, _⟩ := HM.out m 2 hm5 (by omega)
                    obtain ⟨b3, _⟩ := HM.out m 3 hm5 (by omega)
                    obtain ⟨b4, _⟩ := HM.out m 4 hm5 (by omega)
                    replace a0 : wr.cell? ⟨w.heap.size + 1, i * 5, none⟩ = some (.bool (M i 0)) := a0
                    replace f0 : wr.frozen? ⟨w.heap.size + 1, i * 5, none⟩ = false := f0
                    replace b0 : wr.cell? ⟨w.heap.size + 1, m * 5, none⟩ = some (.bool (M m 0)) := b0
                    have hei := either_any (M i) (M m) wr.drew
                    unfold rwV at hei
                    clear c1'
                    have hlt1 : w.heap.size + 1 < wr.heap.size := by omega
                    go_region_with (go_at_call 89; refine hei.mono ?_; rintro e w1 ⟨rfl, be⟩; have k0 := (be.cell (p := ⟨w.heap.size + 1, i * 5, none⟩) hlt1).trans a0; have k1 := (be.cell (p := ⟨w.heap.size + 1, i * 5 + 1, none⟩) hlt1).trans a1; have k2 := (be.cell (p := ⟨w.heap.size + 1, i * 5 + 2, none⟩) hlt1).trans a2; have k3 := (be.cell (p := ⟨w.heap.size + 1, i * 5 + 3, none⟩) hlt1).trans a3; have k4 := (be.cell (p := ⟨w.heap.size + 1, i * 5 + 4, none⟩) hlt1).trans a4; have g0 := (be.frozen (p := ⟨w.heap.size + 1, i * 5, none⟩) hlt1).trans f0; have g1 := (be.frozen (p := ⟨w.heap.size + 1, i * 5 + 1, none⟩) hlt1).trans f1; have g2 := (be.frozen (p := ⟨w.heap.size + 1, i * 5 + 2, none⟩) hlt1).trans f2; have g3 := (be.frozen (p := ⟨w.heap.size + 1, i * 5 + 3, none⟩) hlt1).trans f3; have g4 := (be.frozen (p := ⟨w.heap.size + 1, i * 5 + 4, none⟩) hlt1).trans f4)
                    all_goals (
                      go_wp2
                      go_roundw
                      case rel =>
                        have be' : Below wr.heap.size wr w1 := ((Below.refl _ wr).drew).trans be
                        have hB1 : Below w.heap.size w w1 := hB.trans (be'.mono hB.size)
                        have hs1 := be'.size
                        refine ⟨i + 1, _, by omega, by go_num, HW.out.took hm5 hi5 H1.out, (HM.out.below be' (by omega)).row hi5 (fun y => M i y || M m y), (HZ.out.below be' (by omega)).apart5 (by omega) _ _ _ _ _ _ _ _ _ _, ?_, by simp; omega⟩
                        exact ((((hB1.setCell (p := ⟨w.heap.size + 1, _, none⟩) (Nat.le_succ _) _).setCell (p := ⟨w.heap.size + 1, _, none⟩) (Nat.le_succ _) _).setCell (p := ⟨w.heap.size + 1, _, none⟩) (Nat.le_succ _) _).setCell (p := ⟨w.heap.size + 1, _, none⟩) (Nat.le_succ _) _).setCell (p := ⟨w.heap.size + 1, _, none⟩) (Nat.le_succ _) _
                      case measure => simp [intOf]; omega)
                · obtain rfl : i = 5 := by omega
                  go_wp2
                  go_roundw
                  case rel => exact ⟨m + 1, by omega, by go_num, HM.out.congr HW.out.last, HZ.out, hB, hsz⟩
                  case measure => simp [intOf]; omega
            · obtain rfl : m = 5 := by omega
              have hrg : wr.rangeAt (w.heap.size + 1) 0 (wayCells l) := HM.out.range
              have hth : wr.there w.heap.size 0 25 := HZ.out.there
              clear HM HZ
              go_upto_region 22 with fail
              refine wp_region_lit ?_
              refine wpList_load_mid rfl 139 _ rfl (w.heap.size + 1) 0 rfl (wayCells l) _ hrg Tryd.underlying139 rfl (by kernel_rfl) ?_
              refine wpList_store_mid rfl 139 _ _ rfl w.heap.size 0 (wayCells l).toArray rfl rfl hth (by kernel_rfl) (way_one l) ?_
              have hB2 : Below w.heap.size w (wr.setCells w.heap.size 0 (wayCells l)) := below_cells hB (Nat.le_refl _) _ _
              have hr2 : (wr.setCells w.heap.size 0 (wayCells l)).rangeAt w.heap.size 0 (wayCells l) := World.rangeAt_setCells_same _ _ _ _ hth
              have hld : (loadVar 139 ⟨w.heap.size, 0, none⟩).run Tryd.prog (wr.setCells w.heap.size 0 (wayCells l)) = .ok (.agg (wayCells l).toArray) (wr.setCells w.heap.size 0 (wayCells l)) := run_loadVar_mid _ _ _ _ _ _ hr2 Tryd.underlying139 rfl (by kernel_rfl)
              rw [show (wayCells l).toArray.toList = wayCells l from rfl]
              generalize wr.setCells w.heap.size 0 (wayCells l) = wz at hB2 hr2 hld ⊢
              clear hr2 hrg hth
              go_wp2
              refine bodyPost_ret (v := .agg (wayCells l).toArray) ?_ rfl ⟨rfl, hB2⟩
              exact results_cell Tryd.results67 rfl hld
end Go.Proofs.YtfconbblnmbnpafDoor
namespace Go.Proofs.YtfconbblnmbnpafDoor
open Go.RowKit

set_option maxRecDepth 100000 in
theorem index_ways (l : List W4) : ∀ (a : Nat), a < 5 → ∀ w : World, (Instr.index 139 (.agg (wayCells l).toArray) (.int .i64 (a : Int))).run Tryd.prog w = .ok (.agg #[.bool (way l a 0), .bool (way l a 1), .bool (way l a 2), .bool (way l a 3), .bool (way l a 4)]) w := by
  refine five ?_ ?_ ?_ ?_ ?_ <;> exact fun _ => by kernel_rfl
end Go.Proofs.YtfconbblnmbnpafDoor
namespace Go.Proofs.YtfconbblnmbnpafDoor
open Go.RowKit

/-- Those below a number that reach a room, rising. -/
def ahd (l : List W4) (b : Nat) : Nat → List Int
  | 0 => []
  | k + 1 => if way l k b = true then ahd l b k ++ [(k : Int)] else ahd l b k
theorem ahd_yes {l : List W4} {b k : Nat} (h : way l k b = true) : ahd l b (k + 1) = ahd l b k ++ [(k : Int)] := by rw [ahd, if_pos h]
theorem ahd_no {l : List W4} {b k : Nat} (h : way l k b = false) : ahd l b (k + 1) = ahd l b k := by rw [ahd, if_neg (by rw [h]; simp)]
theorem ahd_len (l : List W4) (b : Nat) : ∀ k, (ahd l b k).length ≤ k
  | 0 => Nat.le_refl _
  | k + 1 => by
    have := ahd_len l b k
    rw [ahd]
    split
    · simp; omega
    · omega

set_option maxRecDepth 100000 in
set_option maxHeartbeats 4000000 in
theorem ahead_bad (l : List W4) (v : Value) (b : Int) (w : World) (hl : Wrs w v l) (h : (wschk l).2 ≠ 0) :
    Calls Tryd.prog 43 #[v, .int .i64 b] w fun e w' => e = .returned (.tuple #[.slice none 0 0, .iface 87 (.int .i64 (wschk l).2)]) ∧ Below w.heap.size w w' := by
  have hc := flcheck_any l v w hl
  obtain ⟨ao, cap, rfl⟩ := hl.form
  rw [wErr_not h] at hc
  obtain ⟨q, hq⟩ : ∃ q, q = (wschk l).2 := ⟨_, rfl⟩
  obtain ⟨p, hp⟩ : ∃ q, q = (wschk l).1 := ⟨_, rfl⟩
  rw [← hq, ← hp] at hc
  rw [← hq]
  clear hq hp h hl
  go_enter Tryd.func43, Tryd.ntmps43
  go_wp2_with (go_at_call 53; refine hc.mono ?_; rintro e w1 ⟨rfl, b1⟩; clear hc)
  go_ret2
  exact ⟨rfl, b1⟩
set_option maxRecDepth 100000 in
set_option maxHeartbeats 4000000 in
theorem ahead_out (l : List W4) (v : Value) (b : Int) (w : World) (hl : Wrs w v l) (h : (wschk l).2 = 0) (hb : ¬ (0 ≤ b ∧ b < 5)) :
    Calls Tryd.prog 43 #[v, .int .i64 b] w fun e w' => e = .returned (.tuple #[.slice none 0 0, .iface 87 (.int .i64 1)]) ∧ Below w.heap.size w w' := by
  have hc := flcheck_any l v w hl
  obtain ⟨ao, cap, rfl⟩ := hl.form
  rw [h, show wErr 0 = .nilIface from rfl] at hc
  obtain ⟨p, hp⟩ : ∃ q, q = (wschk l).1 := ⟨_, rfl⟩
  rw [← hp] at hc
  clear hp h hl
  have h1 := fun W => flroom_no b W hb
  clear hb
  go_enter Tryd.func43, Tryd.ntmps43
  go_wp2_with (first
    | (go_at_call 53; refine hc.mono ?_; rintro e w1 ⟨rfl, b1⟩; clear hc)
    | (go_at_call 66; refine (h1 _).mono ?_; rintro e w2 ⟨rfl, rfl⟩; clear h1))
  go_ret2
  exact ⟨rfl, b1⟩
set_option maxRecDepth 100000 in
set_option maxHeartbeats 4000000 in
theorem ahead_ok (l : List W4) (v : Value) (b : Nat) (w : World) (hl : Wrs w v l) (h : (wschk l).2 = 0) (hb : b < 5) :
    Calls Tryd.prog 43 #[v, .int .i64 b] w fun e w' => ∃ u, e = .returned (.tuple #[u, .nilIface]) ∧ w'.ownsRow w.heap.size 3 1 u (ahd l b 5).length (ints (ahd l b 5)) ∧ Below w.heap.size w w' := by
  obtain ⟨ii, hi, hz0, hz1, hz2⟩ := info_parts infoInt
  have hc := flcheck_any l v w hl
  have hk := wschk_ok h
  have HR : Hid (∀ w1, Below w.heap.size w w1 → Calls Tryd.prog 67 #[v] w1 fun e w' => e = .returned (.agg (wayCells l).toArray) ∧ Below w1.heap.size w1 w') := fun w1 b1 => reached_any l v w1 (hl.all b1) hk.1 hk.2
  obtain ⟨ao, cap, rfl⟩ := hl.form
  rw [h, show wErr 0 = .nilIface from rfl] at hc
  obtain ⟨p, hp⟩ : ∃ q, q = (wschk l).1 := ⟨_, rfl⟩
  rw [← hp] at hc
  clear hp h hl hk
  have h1 := fun W => flroom_yes b W (by omega) (by omega)
  have HI : Hid (∀ a : Nat, a < 5 → ∀ w : World, (Instr.index 139 (.agg (wayCells l).toArray) (.int .i64 (a : Int))).run Tryd.prog w = .ok (.agg #[.bool (way l a 0), .bool (way l a 1), .bool (way l a 2), .bool (way l a 3), .bool (way l a 4)]) w) := index_ways l
  go_enter Tryd.func43, Tryd.ntmps43
  go_wp2_with (first
    | (go_at_call 53; refine hc.mono ?_; rintro e w1 ⟨rfl, b1⟩; clear hc; have hr := HR.out w1 b1; clear HR)
    | (go_at_call 66; refine (h1 _).mono ?_; rintro e w2 ⟨rfl, rfl⟩; clear h1)
    | (go_at_call 67; refine hr.mono ?_; rintro e w4 ⟨rfl, b4⟩; clear hr))
  have bw : Below w.heap.size w w4 := b1.trans (b4.mono b1.size)
  clear b1 b4
  go_loopw [8, 25] (fun o i wr => ∃ k : Nat, k ≤ 5 ∧ i = .int .i64 k ∧ wr.ownsRow w.heap.size 3 1 o (ahd l b k).length (ints (ahd l b k)) ∧ Below w.heap.size w wr) (fun _ i _ => 5 - (intOf i).toNat)
  case atStart => exact ⟨0, Nat.zero_le _, rfl, World.ownsRow_nil _ _ _ _, bw⟩
  case round =>
    obtain ⟨k, hk, rfl, own, hB⟩ := hrel
    have hlen := ahd_len l b k
    by_cases hk5 : k < 5
    · have hki : (k : Int) < 5 := by omega
      have hix := HI.out k hk5
      have cb : ∀ (W : World), (W.alloc (.cells #[.bool (way l k 0), .bool (way l k 1), .bool (way l k 2), .bool (way l k 3), .bool (way l k 4)] 137)).cell? ⟨W.heap.size, b, none⟩ = some (.bool (way l k b)) := fun W => (Rw.new W (way l k) 137 b hb).1
      have hbi : (b : Int) < 5 := by omega
      have hsz := hB.size
      cases hwy : way l k b with
      | true =>
        have HY : Hid (ahd l b (k + 1) = ahd l b k ++ [(k : Int)]) := ahd_yes hwy
        rw [hwy] at cb
        clear hwy
        go_wp2_with (at_builtin; refine wpList_append_own _ rfl _ _ 43 rfl w.heap.size 3 ii (.int .i64 0) 1 8 Tryd.underlying43 hi hz0 hz1 hz2 rfl (by decide) _ _ _ rfl ((own.alloc _).alloc _) ⟨wr.heap.size + 1, 0, none⟩ 1 1 [.int .i64 k] rfl rfl ?c1A ?c2A ?c3A ?c4A ?c5A ?_)
        case c1A => exact one_new_at (by simp) _ _
        case c2A => exact one_one k
        case c3A => unfold maxLen; omega
        case c4A => omega
        case c5A => simp; omega
        intro v1 w2 own2 hg1 _
        have hB2 : Below w.heap.size w w2 := ((hB.alloc hB.size _).alloc (by simp; omega) _).grown hg1 (by simp; omega) (fun j hj => (own.lt j hj).1)
        have HO : Hid (w2.ownsRow w.heap.size 3 1 v1 (ahd l b (k + 1)).length (ints (ahd l b (k + 1)))) := by
          show World.ownsRow _ _ _ _ _ _ _
          rw [HY.out, ints_snoc, List.length_append]
          exact own2
        clear own own2 hg1
        go_wp2
        go_roundw
        case rel => exact ⟨k + 1, by omega, by go_num, HO.out, hB2⟩
        case measure => simp [intOf]; omega
      | false =>
        have HY : Hid (ahd l b (k + 1) = ahd l b k) := ahd_no hwy
        rw [hwy] at cb
        clear hwy
        have own2 := own.alloc (.cells #[.bool (way l k 0), .bool (way l k 1), .bool (way l k 2), .bool (way l k 3), .bool (way l k 4)] 137)
        have HO : Hid ((wr.alloc (.cells #[.bool (way l k 0), .bool (way l k 1), .bool (way l k 2), .bool (way l k 3), .bool (way l k 4)] 137)).ownsRow w.heap.size 3 1 u8 (ahd l b (k + 1)).length (ints (ahd l b (k + 1)))) := by
          show World.ownsRow _ _ _ _ _ _ _
          rw [HY.out]
          exact own2
        clear own own2
        go_wp2
        go_roundw
        case rel => exact ⟨k + 1, by omega, by go_num, HO.out, hB.alloc hsz _⟩
        case measure => simp [intOf]; omega
    · obtain rfl : k = 5 := by omega
      have HO : Hid (wr.ownsRow w.heap.size 3 1 u8 (ahd l b 5).length (ints (ahd l b 5))) := own
      obtain ⟨g, cap, rfl⟩ : ∃ g cap, u8 = .slice g (ahd l b 5).length cap := by
        rcases row_form own with ⟨h1, h2⟩ | ⟨g, cap, h1⟩
        · exact ⟨_, _, by rw [h2]; exact h1⟩
        · exact ⟨_, _, h1⟩
      clear own
      go_wp2
      go_ret2
      exact ⟨_, rfl, HO.out, hB⟩
end Go.Proofs.YtfconbblnmbnpafDoor
namespace Go.Proofs.YtfconbblnmbnpafDoor
open Go.RowKit

theorem ahd_has (l : List W4) (b : Nat) (i : Nat) : ∀ k, (ahd l b k).contains (i : Int) = (decide (i < k) && way l i b)
  | 0 => by simp [ahd]
  | k + 1 => by
    have ih := ahd_has l b i k
    rw [ahd]
    by_cases hik : i = k
    · subst hik
      rw [Bool.eq_iff_iff, List.contains_iff_mem]
      rw [Bool.eq_iff_iff, List.contains_iff_mem] at ih
      simp only [Nat.lt_irrefl, decide_false, Bool.false_and, Bool.false_eq_true, iff_false] at ih
      split
      · rename_i h
        simp [h]
      · rename_i h
        simp only [Bool.not_eq_true] at h
        simp [h, ih]
    · have hne : ¬ ((i : Int) = (k : Int)) := by omega
      have hd : decide (i < k + 1) = decide (i < k) := by
        by_cases h : i < k
        · simp [h, show i < k + 1 by omega]
        · simp [h, show ¬ i < k + 1 by omega]
      rw [hd, ← ih]
      split
      · rw [Bool.eq_iff_iff, List.contains_iff_mem, List.contains_iff_mem]
        simp [hne]
      · rfl
theorem ahd_some (l : List W4) (b : Nat) (hb : b < 5) : (ahd l b 5).length ≠ 0 := fun h => by
  have := ahd_has l b b 5
  rw [List.eq_nil_of_length_eq_zero h, way_self] at this
  simp [hb] at this
/-- A row and a block of another type lie apart. -/
theorem own_not {w : World} {base : Nat} {e t : TypeId} {size : Nat} {v : Value} {n kb : Nat} {xs : List Value} {cs : Array Value} {q : Nat × Nat} (h : w.ownsRow base e size v n xs) (hb : w.heap[kb]? = some (.cells cs t q)) (he : e ≠ t) : ∀ g, v.ownBlock = some g → g ≠ kb := fun g hg hgk => by
  rcases h.2 with ⟨rfl, _⟩ | ⟨g1, c1, u1, rfl, _, hb1, _⟩
  · cases hg
  · simp only [Value.ownBlock, Option.some.injEq] at hg
    subst hg
    subst hgk
    rw [hb1] at hb
    simp only [Option.some.injEq, Obj.cells.injEq] at hb
    exact he hb.2.1
set_option maxRecDepth 100000 in
set_option maxHeartbeats 4000000 in
theorem pg_no (p : PD) (vc vs vw : Value) (r : Int) (w : World) (hfm : Forms w) (hP : Pln w vc vs vw p) (hp : plchk p ≠ 0) :
    Calls Tryd.prog 19 #[plV vc p.ticks vs vw, .int .i64 r] w fun e w' => e = .returned (.tuple #[plV (.slice none 0 0) 0 (.slice none 0 0) (.slice none 0 0), wErr (plchk p)]) ∧ Below w.heap.size w w' := by
  obtain ⟨ca, cc, rfl⟩ := hP.code.form
  obtain ⟨sa, sc, rfl⟩ := hP.spans.form
  obtain ⟨wa, wc', rfl⟩ := hP.wires.form
  have hx0 := Bx.first w (.slice ca p.code.length cc) p.ticks (.slice sa p.spans.length sc) (.slice wa p.wires.length wc')
  have hA0 : Below (w.heap.size + 1) (w.alloc (.cells #[.slice ca p.code.length cc, .int .i64 p.ticks, .slice sa p.spans.length sc, .slice wa p.wires.length wc'] 26)) ((w.alloc (.cells #[.slice ca p.code.length cc, .int .i64 p.ticks, .slice sa p.spans.length sc, .slice wa p.wires.length wc'] 26)).alloc (.cells #[.slice none 0 0, .int .i64 0, .slice none 0 0, .slice none 0 0] 26)) := (Below.refl _ _).alloc (by simp) _
  generalize hWA : (w.alloc (.cells #[.slice ca p.code.length cc, .int .i64 p.ticks, .slice sa p.spans.length sc, .slice wa p.wires.length wc'] 26)).alloc (.cells #[.slice none 0 0, .int .i64 0, .slice none 0 0, .slice none 0 0] 26) = WA at hA0
  have hx1 : Bx w WA (.slice ca p.code.length cc) p.ticks (.slice sa p.spans.length sc) (.slice wa p.wires.length wc') := hA0
  have hsA : WA.heap.size = w.heap.size + 2 := by rw [← hWA]; simp
  have hZ : WA.heap[w.heap.size + 1]? = some (.cells #[.slice none 0 0, .int .i64 0, .slice none 0 0, .slice none 0 0] 26 (0, 0)) := by
    have h := World.alloc_heap_new (w.alloc (.cells #[.slice ca p.code.length cc, .int .i64 p.ticks, .slice sa p.spans.length sc, .slice wa p.wires.length wc'] 26)) (.cells #[.slice none 0 0, .int .i64 0, .slice none 0 0, .slice none 0 0] 26)
    rw [hWA, World.size_alloc] at h
    exact h
  have HZ : Hid (WA.heap[w.heap.size + 1]? = some (.cells #[.slice none 0 0, .int .i64 0, .slice none 0 0, .slice none 0 0] 26 (0, 0))) := hZ
  clear hZ
  have hc := plcheck_any p _ _ _ _ (hfm.all hx1.below) (hP.all hx1.below)
  unfold plV at hc ⊢
  rw [wErr_not hp] at hc ⊢
  generalize plchk p = ec at hc hp ⊢
  have k0 := hx1.c0
  have k1 := hx1.c1
  have k2 := hx1.c2
  have k3 := hx1.c3
  clear hP hfm hx0 hA0
  go_enter Tryd.func19, Tryd.ntmps19
  go_upto_region 1 with fail
  clear hWA
  go_wp2_with (go_at_call 30; refine hc.mono ?_; rintro e w1 ⟨rfl, b1⟩; clear hc; obtain ⟨z0, z1, z2, z3, y0, y1, y2, y3⟩ := blk4_cs ((b1.block (w.heap.size + 1) (by omega)).trans HZ.out))
  refine bodyPost_ret (v := .tuple #[.agg #[.slice none 0 0, .int .i64 0, .slice none 0 0, .slice none 0 0], .iface 87 (.int .i64 ec)]) ?_ rfl ⟨rfl, ?_⟩
  · simp [results, Tryd.results19, go_sem, z0, z1, z2, z3]
  · exact set4_below (hx1.step b1).below (w.heap.size + 1) (by omega) _ _ _ _
set_option maxRecDepth 100000 in
set_option maxHeartbeats 4000000 in
theorem pg_out (p : PD) (vc vs vw : Value) (r : Int) (w : World) (hfm : Forms w) (hP : Pln w vc vs vw p) (hp : plchk p = 0) (hr : r < 0 ∨ (p.code.length : Int) ≤ r) :
    Calls Tryd.prog 19 #[plV vc p.ticks vs vw, .int .i64 r] w fun e w' => e = .returned (.tuple #[plV (.slice none 0 0) 0 (.slice none 0 0) (.slice none 0 0), wErr 1]) ∧ Below w.heap.size w w' := by
  obtain ⟨ca, cc, rfl⟩ := hP.code.form
  obtain ⟨sa, sc, rfl⟩ := hP.spans.form
  obtain ⟨wa, wc', rfl⟩ := hP.wires.form
  have hx0 := Bx.first w (.slice ca p.code.length cc) p.ticks (.slice sa p.spans.length sc) (.slice wa p.wires.length wc')
  have hA0 : Below (w.heap.size + 1) (w.alloc (.cells #[.slice ca p.code.length cc, .int .i64 p.ticks, .slice sa p.spans.length sc, .slice wa p.wires.length wc'] 26)) ((w.alloc (.cells #[.slice ca p.code.length cc, .int .i64 p.ticks, .slice sa p.spans.length sc, .slice wa p.wires.length wc'] 26)).alloc (.cells #[.slice none 0 0, .int .i64 0, .slice none 0 0, .slice none 0 0] 26)) := (Below.refl _ _).alloc (by simp) _
  generalize hWA : (w.alloc (.cells #[.slice ca p.code.length cc, .int .i64 p.ticks, .slice sa p.spans.length sc, .slice wa p.wires.length wc'] 26)).alloc (.cells #[.slice none 0 0, .int .i64 0, .slice none 0 0, .slice none 0 0] 26) = WA at hA0
  have hx1 : Bx w WA (.slice ca p.code.length cc) p.ticks (.slice sa p.spans.length sc) (.slice wa p.wires.length wc') := hA0
  have hsA : WA.heap.size = w.heap.size + 2 := by rw [← hWA]; simp
  have hZ : WA.heap[w.heap.size + 1]? = some (.cells #[.slice none 0 0, .int .i64 0, .slice none 0 0, .slice none 0 0] 26 (0, 0)) := by
    have h := World.alloc_heap_new (w.alloc (.cells #[.slice ca p.code.length cc, .int .i64 p.ticks, .slice sa p.spans.length sc, .slice wa p.wires.length wc'] 26)) (.cells #[.slice none 0 0, .int .i64 0, .slice none 0 0, .slice none 0 0] 26)
    rw [hWA, World.size_alloc] at h
    exact h
  have HZ : Hid (WA.heap[w.heap.size + 1]? = some (.cells #[.slice none 0 0, .int .i64 0, .slice none 0 0, .slice none 0 0] 26 (0, 0))) := hZ
  clear hZ
  have hc := plcheck_any p _ _ _ _ (hfm.all hx1.below) (hP.all hx1.below)
  rw [hp] at hc
  unfold plV at hc ⊢
  unfold wErr at hc ⊢
  have hcase : decide (r < 0) = true ∨ (decide (r < 0) = false ∧ decide ((p.code.length : Int) ≤ r) = true) := by
    by_cases h : r < 0
    · exact Or.inl (decide_eq_true h)
    · exact Or.inr ⟨decide_eq_false h, decide_eq_true (hr.resolve_left h)⟩
  have k0 := hx1.c0
  have k1 := hx1.c1
  have k2 := hx1.c2
  have k3 := hx1.c3
  clear hP hfm hx0 hA0 hr hp
  rcases hcase with h1 | ⟨h1, h2⟩
  · go_enter Tryd.func19, Tryd.ntmps19
    go_upto_region 1 with fail
    clear hWA
    go_wp2_with (go_at_call 30; refine hc.mono ?_; rintro e w1 ⟨rfl, b1⟩; clear hc; obtain ⟨z0, z1, z2, z3, y0, y1, y2, y3⟩ := blk4_cs ((b1.block (w.heap.size + 1) (by omega)).trans HZ.out); have hx2 := hx1.step b1; replace k0 := hx2.c0; replace k1 := hx2.c1; replace k2 := hx2.c2; replace k3 := hx2.c3)
    refine bodyPost_ret (v := .tuple #[.agg #[.slice none 0 0, .int .i64 0, .slice none 0 0, .slice none 0 0], .iface 87 (.int .i64 1)]) ?_ rfl ⟨rfl, ?_⟩
    · simp [results, Tryd.results19, go_sem, z0, z1, z2, z3]
    · exact set4_below hx2.below (w.heap.size + 1) (by omega) _ _ _ _
  · go_enter Tryd.func19, Tryd.ntmps19
    go_upto_region 1 with fail
    clear hWA
    go_wp2_with (go_at_call 30; refine hc.mono ?_; rintro e w1 ⟨rfl, b1⟩; clear hc; obtain ⟨z0, z1, z2, z3, y0, y1, y2, y3⟩ := blk4_cs ((b1.block (w.heap.size + 1) (by omega)).trans HZ.out); have hx2 := hx1.step b1; replace k0 := hx2.c0; replace k1 := hx2.c1; replace k2 := hx2.c2; replace k3 := hx2.c3)
    refine bodyPost_ret (v := .tuple #[.agg #[.slice none 0 0, .int .i64 0, .slice none 0 0, .slice none 0 0], .iface 87 (.int .i64 1)]) ?_ rfl ⟨rfl, ?_⟩
    · simp [results, Tryd.results19, go_sem, z0, z1, z2, z3]
    · exact set4_below hx2.below (w.heap.size + 1) (by omega) _ _ _ _
set_option maxRecDepth 100000 in
set_option maxHeartbeats 16000000 in
theorem pg_ok (p : PD) (vc vs vw : Value) (r : Nat) (w : World) (hfm : Forms w) (hP : Pln w vc vs vw p) (hp : plchk p = 0) (hr : r < p.code.length) :
    Calls Tryd.prog 19 #[plV vc p.ticks vs vw, .int .i64 r] w fun e w' => ∃ ic is iw, e = .returned (.tuple #[plV ic p.ticks is iw, .nilIface]) ∧ Pln w' ic is iw (purgeP p (fun i => way p.wires i r)) ∧ Below w.heap.size w w' := by
  obtain ⟨ca, cc, rfl⟩ := hP.code.form
  obtain ⟨sa, sc, rfl⟩ := hP.spans.form
  obtain ⟨wa, wc', rfl⟩ := hP.wires.form
  have hx0 := Bx.first w (.slice ca p.code.length cc) p.ticks (.slice sa p.spans.length sc) (.slice wa p.wires.length wc')
  have hA0 : Below (w.heap.size + 1) (w.alloc (.cells #[.slice ca p.code.length cc, .int .i64 p.ticks, .slice sa p.spans.length sc, .slice wa p.wires.length wc'] 26)) ((w.alloc (.cells #[.slice ca p.code.length cc, .int .i64 p.ticks, .slice sa p.spans.length sc, .slice wa p.wires.length wc'] 26)).alloc (.cells #[.slice none 0 0, .int .i64 0, .slice none 0 0, .slice none 0 0] 26)) := (Below.refl _ _).alloc (by simp) _
  generalize hWA : (w.alloc (.cells #[.slice ca p.code.length cc, .int .i64 p.ticks, .slice sa p.spans.length sc, .slice wa p.wires.length wc'] 26)).alloc (.cells #[.slice none 0 0, .int .i64 0, .slice none 0 0, .slice none 0 0] 26) = WA at hA0
  have hx1 : Bx w WA (.slice ca p.code.length cc) p.ticks (.slice sa p.spans.length sc) (.slice wa p.wires.length wc') := hA0
  have hsA : WA.heap.size = w.heap.size + 2 := by rw [← hWA]; simp
  have hZ : WA.heap[w.heap.size + 1]? = some (.cells #[.slice none 0 0, .int .i64 0, .slice none 0 0, .slice none 0 0] 26 (0, 0)) := by
    have h := World.alloc_heap_new (w.alloc (.cells #[.slice ca p.code.length cc, .int .i64 p.ticks, .slice sa p.spans.length sc, .slice wa p.wires.length wc'] 26)) (.cells #[.slice none 0 0, .int .i64 0, .slice none 0 0, .slice none 0 0] 26)
    rw [hWA, World.size_alloc] at h
    exact h
  have HZ : Hid (WA.heap[w.heap.size + 1]? = some (.cells #[.slice none 0 0, .int .i64 0, .slice none 0 0, .slice none 0 0] 26 (0, 0))) := hZ
  clear hZ
  obtain ⟨hc5, hc0, hfz, hwz, _, _, hcz, _⟩ := plchk_zero hp
  have hsl : p.spans.length ≤ 12 := (fchk_zero hfz).2.2.1
  have hwl : p.wires.length ≤ 12 := (wschk_ok hwz).1
  have hr5 : r < 5 := by omega
  have HP : Hid (Pln w (.slice ca p.code.length cc) (.slice sa p.spans.length sc) (.slice wa p.wires.length wc') p) := hP
  have HCZ : Hid (∀ c ∈ p.code, (chk c).2 = 0) := codesE_zero hcz
  have hc := plcheck_any p _ _ _ _ (hfm.all hx1.below) (hP.all hx1.below)
  rw [hp] at hc
  unfold plV at hc ⊢
  unfold wErr at hc
  simp only [if_true] at hc
  have HAh : Hid (∀ W, Below w.heap.size w W → Calls Tryd.prog 43 #[.slice wa p.wires.length wc', .int .i64 r] W fun e w' => ∃ ag cap, e = .returned (.tuple #[.slice (some ⟨ag, 0, none⟩) (ahd p.wires r 5).length cap, .nilIface]) ∧ ag < w'.heap.size ∧ (∀ (i : Nat) y, (ahd p.wires r 5)[i]? = some y → w'.cell? ⟨ag, 0 + i, none⟩ = some (.int .i64 y)) ∧ Below W.heap.size W w') := fun W hb => by
    refine (ahead_ok p.wires _ r W (HP.out.wires.all hb) hwz hr5).mono ?_
    rintro e w' ⟨u, rfl, own, hb2⟩
    rcases row_form own with ⟨_, h2⟩ | ⟨g, cap, rfl⟩
    · exact absurd h2 (ahd_some _ _ hr5)
    · obtain ⟨_, h2, _, _, h5, _, _⟩ := own_cap own
      exact ⟨g, cap, rfl, h2, fun i y hy => by rw [Nat.zero_add]; exact h5 i _ (ints_at hy), hb2⟩
  have HL : Hid (∀ i : Nat, i < 5 → (ahd p.wires r 5).contains (i : Int) = way p.wires i r) := fun i hi => by
    rw [ahd_has]
    simp [hi]
  have hLl := ahd_len p.wires r 5
  generalize ahd p.wires r 5 = L at HAh HL hLl
  have h0 : decide ((r : Int) < 0) = false := decide_eq_false (by omega)
  have h1 : decide ((p.code.length : Int) ≤ (r : Int)) = false := decide_eq_false (by omega)
  have h1' : decide (p.code.length ≤ r) = false := decide_eq_false (by omega)
  have k0 := hx1.c0
  have k1 := hx1.c1
  have k2 := hx1.c2
  have k3 := hx1.c3
  clear hP hfm hx0 hA0 hfz hwz hcz hp
  go_enter Tryd.func19, Tryd.ntmps19
  go_upto_region 1 with fail
  clear hWA
  go_upto_region 9 with (first
    | (go_at_call 30; refine hc.mono ?_; rintro e w1 ⟨rfl, b1⟩; clear hc; have hx2 := hx1.step b1; replace k0 := hx2.c0; replace k1 := hx2.c1; replace k2 := hx2.c2; replace k3 := hx2.c3; have q2 := HAh.out w1 hx2.below; clear HAh)
    | (go_at_call 43; refine q2.mono ?_; rintro e w3 ⟨ag, acap, rfl, hag, hac, b3⟩; clear q2))
  have hx3 := hx2.step b3
  have HB3 : Hid (Below WA.heap.size WA w3) := b1.trans (b3.mono b1.size)
  have HAC : Hid (∀ (i : Nat) y, L[i]? = some y → w3.cell? ⟨ag, 0 + i, none⟩ = some (.int .i64 y)) := hac
  have hs3 : WA.heap.size ≤ w3.heap.size := HB3.out.size
  clear b1 b3 hx2 hx1 k0 k1 k2 k3 hac h0 h1 h1'
  go_cut [9] from 40 to 49 (fun s9 wx => ∃ kb sao sn scap wao wn wcap, s9 = .pointer (some ⟨kb, 0, none⟩) ∧ Below w3.heap.size w3 wx ∧ w3.heap.size ≤ kb ∧ kb < wx.heap.size ∧ wx.heap[kb]? = some (.cells #[.slice none 0 0, .int .i64 p.ticks, .slice sao sn scap, .slice wao wn wcap] 26 (0, 0)) ∧ wx.ownsRow w3.heap.size 59 3 (.slice sao sn scap) p.spans.length (spCells p.spans) ∧ wx.ownsRow w3.heap.size 83 4 (.slice wao wn wcap) p.wires.length (wrCells p.wires))
  case first =>
    have HCs : Hid (∀ W, Below w3.heap.size w3 W → Calls Tryd.prog 41 #[.slice sa p.spans.length sc] W fun e w' => ∃ ao n cap, e = .returned (.slice ao n cap) ∧ w'.ownsRow W.heap.size 59 3 (.slice ao n cap) p.spans.length (spCells p.spans) ∧ Below W.heap.size W w') := fun W hb => by
      refine (clone_sps p.spans _ W (HP.out.spans.all (hx3.step hb).below) (by omega)).mono ?_
      rintro e w' ⟨v, rfl, h1, h2⟩
      obtain ⟨ao, n, cap, rfl⟩ := own_form h1
      exact ⟨ao, n, cap, rfl, h1, h2⟩
    have HCw : Hid (∀ W, Below w3.heap.size w3 W → Calls Tryd.prog 44 #[.slice wa p.wires.length wc'] W fun e w' => ∃ ao n cap, e = .returned (.slice ao n cap) ∧ w'.ownsRow W.heap.size 83 4 (.slice ao n cap) p.wires.length (wrCells p.wires) ∧ Below W.heap.size W w') := fun W hb => by
      refine (clone_wrs p.wires _ W (HP.out.wires.all (hx3.step hb).below) (by omega)).mono ?_
      rintro e w' ⟨v, rfl, h1, h2⟩
      obtain ⟨ao, n, cap, rfl⟩ := own_form h1
      exact ⟨ao, n, cap, rfl, h1, h2⟩
    have HQ : Hid (∀ W, Below w3.heap.size w3 W → W.cell? ⟨w.heap.size, 1, none⟩ = some (.int .i64 p.ticks) ∧ W.cell? ⟨w.heap.size, 2, none⟩ = some (.slice sa p.spans.length sc) ∧ W.cell? ⟨w.heap.size, 3, none⟩ = some (.slice wa p.wires.length wc')) := fun W hb => ⟨(hx3.step hb).c1, (hx3.step hb).c2, (hx3.step hb).c3⟩
    have bcur : Below w3.heap.size w3 w3.drew := (Below.refl _ _).drew
    refine wp_region_popped (fun W => W.cell? ⟨w.heap.size, 1, none⟩ = some (.int .i64 p.ticks) ∧ W.cell? ⟨w.heap.size, 2, none⟩ = some (.slice sa p.spans.length sc) ∧ W.cell? ⟨w.heap.size, 3, none⟩ = some (.slice wa p.wires.length wc')) (by kernel_rfl) rfl (by decide +kernel) (HQ.out _ bcur) (fun hHeld => ?_)
    simp only [List.pop_toArray, List.dropLast_cons_cons, List.dropLast_singleton, List.size_toArray, List.length_cons, List.length_nil, Nat.reduceAdd, Array.replicate_succ, Array.replicate_zero, List.push_toArray, List.nil_append, List.cons_append]
    refine wpAnyH_take (i := 0) (v := ?_) rfl (by decide +kernel) (by decide +kernel) (by decide +kernel) (fun _ _ _ h => h) (Or.inl ⟨by rfl, ?_⟩) (by assumption) ?_
    rotate_left
    · intro W hSw
      try dsimp only at hSw
      obtain ⟨hS1, hS2, hS3⟩ := hSw
      go_simp
      try with_reducible rfl
    simp only [Act.put, List.setIfInBounds_toArray, List.set_cons_zero]
    refine wpAnyH_take (i := 1) (v := ?_) rfl (by decide +kernel) (by decide +kernel) (by decide +kernel) (fun _ _ _ h => h) (Or.inl ⟨by rfl, ?_⟩) (by assumption) ?_
    rotate_left
    · intro W hSw
      try dsimp only at hSw
      obtain ⟨hS1, hS2, hS3⟩ := hSw
      go_simp
      try with_reducible rfl
    simp only [Act.put, List.setIfInBounds_toArray, List.set_cons_zero, List.set_cons_succ]
    refine wpAnyH_take (i := 2) (v := ?_) rfl (by decide +kernel) (by decide +kernel) (by decide +kernel) (fun _ _ _ h => h) (Or.inl ⟨by rfl, ?_⟩) (by assumption) ?_
    rotate_left
    · intro W hSw
      try dsimp only at hSw
      obtain ⟨hS1, hS2, hS3⟩ := hSw
      go_simp
      try with_reducible rfl
    simp only [Act.put, List.setIfInBounds_toArray, List.set_cons_zero, List.set_cons_succ]
    refine wpAnyH_take (i := 3) (v := ?_) rfl (by decide +kernel) (by decide +kernel) (by decide +kernel) (fun _ _ _ h => h) (Or.inl ⟨by rfl, ?_⟩) (by assumption) ?_
    rotate_left
    · intro W hSw
      try dsimp only at hSw
      obtain ⟨hS1, hS2, hS3⟩ := hSw
      go_simp
      try with_reducible rfl
    simp only [Act.put, List.setIfInBounds_toArray, List.set_cons_zero, List.set_cons_succ]
    refine wpAnyH_take (i := 5) (v := ?_) rfl (by decide +kernel) (by decide +kernel) (by decide +kernel) (fun _ _ _ h => h) (Or.inl ⟨by rfl, ?_⟩) (by assumption) ?_
    rotate_left
    · intro W hSw
      try dsimp only at hSw
      obtain ⟨hS1, hS2, hS3⟩ := hSw
      go_simp
      try with_reducible rfl
    simp only [Act.put, List.setIfInBounds_toArray, List.set_cons_zero, List.set_cons_succ]
    refine wpAnyH_take (i := 6) (v := ?_) rfl (by decide +kernel) (by decide +kernel) (by decide +kernel) (fun _ _ _ h => h) (Or.inl ⟨by rfl, ?_⟩) (by assumption) ?_
    rotate_left
    · intro W hSw
      try dsimp only at hSw
      obtain ⟨hS1, hS2, hS3⟩ := hSw
      go_simp
      try with_reducible rfl
    simp only [Act.put, List.setIfInBounds_toArray, List.set_cons_zero, List.set_cons_succ]
    generalize w3.drew = wD at bcur hHeld ⊢
    refine wpAnyH_ready (rs := [4, 9]) (by decide +kernel) (by simp) ?_
    refine AllReadyH.cons (o := _) rfl (fun K hK => ?_) (AllReadyH.cons (o := _) rfl (fun K hK => ?_) AllReadyH.nil)
    · go_simp
      go_at_call 41
      refine (HCs.out _ bcur).mono ?_
      rintro e wS ⟨sao, sn, scap, rfl, hs, bN⟩
      replace hs := own_base hs bcur.size
      replace bcur := bcur.trans (bN.mono bcur.size)
      clear bN
      go_wp2_with fail
      refine hK.out _ _ (HQ.out _ bcur) (fun hHeld => ?_)
      clear hK K
      simp only [List.setIfInBounds_toArray, List.set_cons_zero, List.set_cons_succ]
      refine wpAnyH_ready (rs := [7, 9]) (by decide +kernel) (by simp) ?_
      refine AllReadyH.cons (o := _) rfl (fun K hK => ?_) (AllReadyH.cons (o := _) rfl (fun K hK => ?_) AllReadyH.nil)
      · go_simp
        go_at_call 44
        refine (HCw.out _ bcur).mono ?_
        rintro e wWS ⟨wao, wn, wcap, rfl, hw, bN⟩
        replace hw := own_base hw bcur.size
        replace hs := own_below hs bN (Nat.le_refl _)
        replace bcur := bcur.trans (bN.mono bcur.size)
        clear bN
        go_wp2_with fail
        refine hK.out _ _ (HQ.out _ bcur) (fun hHeld => ?_)
        clear hK K
        simp only [List.setIfInBounds_toArray, List.set_cons_zero, List.set_cons_succ]
        refine wpAnyH_take (i := 8) (v := ?_) rfl (by decide +kernel) (by decide +kernel) (by decide +kernel) (fun _ _ _ h => h) (Or.inl ⟨by rfl, ?_⟩) (by assumption) ?_
        rotate_left
        · intro W hSw
          try dsimp only at hSw
          obtain ⟨hS1, hS2, hS3⟩ := hSw
          go_simp
          try with_reducible rfl
        simp only [Act.put, List.setIfInBounds_toArray, List.set_cons_zero, List.set_cons_succ]
        refine wpAnyH_ready (rs := [9]) (by decide +kernel) (by simp) ?_
        refine AllReadyH.cons (o := _) rfl (fun K hK => ?_) AllReadyH.nil
        go_simp
        have bN : Below (wWS).heap.size (wWS) ((wWS).alloc (.cells #[.slice none 0 0, .int .i64 0, .slice none 0 0, .slice none 0 0] 26)) := (Below.refl _ _).alloc (Nat.le_refl _) _
        have hblk : ((wWS).alloc (.cells #[.slice none 0 0, .int .i64 0, .slice none 0 0, .slice none 0 0] 26)).heap[(wWS).heap.size]? = some (.cells #[.slice none 0 0, .int .i64 0, .slice none 0 0, .slice none 0 0] 26 (0, 0)) := World.alloc_heap_new _ _
        have hkb : (wWS).heap.size < ((wWS).alloc (.cells #[.slice none 0 0, .int .i64 0, .slice none 0 0, .slice none 0 0] 26)).heap.size := by simp
        have hk3 : w3.heap.size ≤ (wWS).heap.size := bcur.size
        replace hs := own_below hs bN (Nat.le_refl _)
        replace hw := own_below hw bN (Nat.le_refl _)
        replace bcur := bcur.trans (bN.mono bcur.size)
        clear bN
        refine hK.out _ _ (HQ.out _ bcur) (fun hHeld => ?_)
        clear hK K
        simp only [List.setIfInBounds_toArray, List.set_cons_zero, List.set_cons_succ]
        generalize (wWS).alloc (.cells #[.slice none 0 0, .int .i64 0, .slice none 0 0, .slice none 0 0] 26) = wASW at hblk hkb bcur hs hw hHeld ⊢
        generalize (wWS).heap.size = kb at hblk hkb hk3 ⊢
        obtain ⟨z0, z1, z2, z3, y0, y1, y2, y3⟩ := blk4_cs hblk
        refine wpAnyH_done (by decide +kernel) ?_ _
        show Oper.wp _ _ _ _ _ _
        go_simp
        go_wp2_with fail
        go_meet
        case rel =>
          have hs2 : ∀ g, (Value.slice sao sn scap).ownBlock = some g → g ≠ kb := own_not hs hblk (by decide)
          have hw2 : ∀ g, (Value.slice wao wn wcap).ownBlock = some g → g ≠ kb := own_not hw hblk (by decide)
          have ht := set4_touch wASW kb (.slice none 0 0) (.int .i64 p.ticks) (.slice sao sn scap) (.slice wao wn wcap)
          exact ⟨kb, sao, sn, scap, wao, wn, wcap, rfl, set4_below bcur kb hk3 _ _ _ _, hk3, by simpa using hkb, set4_blk hblk, own_block hs (fun g hg => ht.block g (hs.lt g hg).2 (by simpa using hs2 g hg)), own_block hw (fun g hg => ht.block g (hw.lt g hg).2 (by simpa using hw2 g hg))⟩
      · go_simp
        have bN : Below (wS).heap.size (wS) ((wS).alloc (.cells #[.slice none 0 0, .int .i64 0, .slice none 0 0, .slice none 0 0] 26)) := (Below.refl _ _).alloc (Nat.le_refl _) _
        have hblk : ((wS).alloc (.cells #[.slice none 0 0, .int .i64 0, .slice none 0 0, .slice none 0 0] 26)).heap[(wS).heap.size]? = some (.cells #[.slice none 0 0, .int .i64 0, .slice none 0 0, .slice none 0 0] 26 (0, 0)) := World.alloc_heap_new _ _
        have hkb : (wS).heap.size < ((wS).alloc (.cells #[.slice none 0 0, .int .i64 0, .slice none 0 0, .slice none 0 0] 26)).heap.size := by simp
        have hk3 : w3.heap.size ≤ (wS).heap.size := bcur.size
        replace hs := own_below hs bN (Nat.le_refl _)
        replace bcur := bcur.trans (bN.mono bcur.size)
        clear bN
        refine hK.out _ _ (HQ.out _ bcur) (fun hHeld => ?_)
        clear hK K
        simp only [List.setIfInBounds_toArray, List.set_cons_zero, List.set_cons_succ]
        generalize (wS).alloc (.cells #[.slice none 0 0, .int .i64 0, .slice none 0 0, .slice none 0 0] 26) = wAS at hblk hkb bcur hs hHeld ⊢
        generalize (wS).heap.size = kb at hblk hkb hk3 ⊢
        refine wpAnyH_ready (rs := [7]) (by decide +kernel) (by simp) ?_
        refine AllReadyH.cons (o := _) rfl (fun K hK => ?_) AllReadyH.nil
        go_simp
        go_at_call 44
        refine (HCw.out _ bcur).mono ?_
        rintro e wWSA ⟨wao, wn, wcap, rfl, hw, bN⟩
        replace hw := own_base hw bcur.size
        replace hs := own_below hs bN (Nat.le_refl _)
        replace hblk := (bN.block kb hkb).trans hblk
        replace hkb := Nat.lt_of_lt_of_le hkb bN.size
        replace bcur := bcur.trans (bN.mono bcur.size)
        clear bN
        go_wp2_with fail
        refine hK.out _ _ (HQ.out _ bcur) (fun hHeld => ?_)
        clear hK K
        simp only [List.setIfInBounds_toArray, List.set_cons_zero, List.set_cons_succ]
        refine wpAnyH_take (i := 8) (v := ?_) rfl (by decide +kernel) (by decide +kernel) (by decide +kernel) (fun _ _ _ h => h) (Or.inl ⟨by rfl, ?_⟩) (by assumption) ?_
        rotate_left
        · intro W hSw
          try dsimp only at hSw
          obtain ⟨hS1, hS2, hS3⟩ := hSw
          go_simp
          try with_reducible rfl
        simp only [Act.put, List.setIfInBounds_toArray, List.set_cons_zero, List.set_cons_succ]
        obtain ⟨z0, z1, z2, z3, y0, y1, y2, y3⟩ := blk4_cs hblk
        refine wpAnyH_done (by decide +kernel) ?_ _
        show Oper.wp _ _ _ _ _ _
        go_simp
        go_wp2_with fail
        go_meet
        case rel =>
          have hs2 : ∀ g, (Value.slice sao sn scap).ownBlock = some g → g ≠ kb := own_not hs hblk (by decide)
          have hw2 : ∀ g, (Value.slice wao wn wcap).ownBlock = some g → g ≠ kb := own_not hw hblk (by decide)
          have ht := set4_touch wWSA kb (.slice none 0 0) (.int .i64 p.ticks) (.slice sao sn scap) (.slice wao wn wcap)
          exact ⟨kb, sao, sn, scap, wao, wn, wcap, rfl, set4_below bcur kb hk3 _ _ _ _, hk3, by simpa using hkb, set4_blk hblk, own_block hs (fun g hg => ht.block g (hs.lt g hg).2 (by simpa using hs2 g hg)), own_block hw (fun g hg => ht.block g (hw.lt g hg).2 (by simpa using hw2 g hg))⟩
    · go_simp
      have bN : Below (wD).heap.size (wD) ((wD).alloc (.cells #[.slice none 0 0, .int .i64 0, .slice none 0 0, .slice none 0 0] 26)) := (Below.refl _ _).alloc (Nat.le_refl _) _
      have hblk : ((wD).alloc (.cells #[.slice none 0 0, .int .i64 0, .slice none 0 0, .slice none 0 0] 26)).heap[(wD).heap.size]? = some (.cells #[.slice none 0 0, .int .i64 0, .slice none 0 0, .slice none 0 0] 26 (0, 0)) := World.alloc_heap_new _ _
      have hkb : (wD).heap.size < ((wD).alloc (.cells #[.slice none 0 0, .int .i64 0, .slice none 0 0, .slice none 0 0] 26)).heap.size := by simp
      have hk3 : w3.heap.size ≤ (wD).heap.size := bcur.size
      replace bcur := bcur.trans (bN.mono bcur.size)
      clear bN
      refine hK.out _ _ (HQ.out _ bcur) (fun hHeld => ?_)
      clear hK K
      simp only [List.setIfInBounds_toArray, List.set_cons_zero, List.set_cons_succ]
      generalize (wD).alloc (.cells #[.slice none 0 0, .int .i64 0, .slice none 0 0, .slice none 0 0] 26) = wA at hblk hkb bcur  hHeld ⊢
      generalize (wD).heap.size = kb at hblk hkb hk3 ⊢
      refine wpAnyH_ready (rs := [4]) (by decide +kernel) (by simp) ?_
      refine AllReadyH.cons (o := _) rfl (fun K hK => ?_) AllReadyH.nil
      go_simp
      go_at_call 41
      refine (HCs.out _ bcur).mono ?_
      rintro e wSA ⟨sao, sn, scap, rfl, hs, bN⟩
      replace hs := own_base hs bcur.size
      replace hblk := (bN.block kb hkb).trans hblk
      replace hkb := Nat.lt_of_lt_of_le hkb bN.size
      replace bcur := bcur.trans (bN.mono bcur.size)
      clear bN
      go_wp2_with fail
      refine hK.out _ _ (HQ.out _ bcur) (fun hHeld => ?_)
      clear hK K
      simp only [List.setIfInBounds_toArray, List.set_cons_zero, List.set_cons_succ]
      refine wpAnyH_ready (rs := [7]) (by decide +kernel) (by simp) ?_
      refine AllReadyH.cons (o := _) rfl (fun K hK => ?_) AllReadyH.nil
      go_simp
      go_at_call 44
      refine (HCw.out _ bcur).mono ?_
      rintro e wWAS ⟨wao, wn, wcap, rfl, hw, bN⟩
      replace hw := own_base hw bcur.size
      replace hblk := (bN.block kb hkb).trans hblk
      replace hkb := Nat.lt_of_lt_of_le hkb bN.size
      replace hs := own_below hs bN (Nat.le_refl _)
      replace bcur := bcur.trans (bN.mono bcur.size)
      clear bN
      go_wp2_with fail
      refine hK.out _ _ (HQ.out _ bcur) (fun hHeld => ?_)
      clear hK K
      simp only [List.setIfInBounds_toArray, List.set_cons_zero, List.set_cons_succ]
      refine wpAnyH_take (i := 8) (v := ?_) rfl (by decide +kernel) (by decide +kernel) (by decide +kernel) (fun _ _ _ h => h) (Or.inl ⟨by rfl, ?_⟩) (by assumption) ?_
      rotate_left
      · intro W hSw
        try dsimp only at hSw
        obtain ⟨hS1, hS2, hS3⟩ := hSw
        go_simp
        try with_reducible rfl
      simp only [Act.put, List.setIfInBounds_toArray, List.set_cons_zero, List.set_cons_succ]
      obtain ⟨z0, z1, z2, z3, y0, y1, y2, y3⟩ := blk4_cs hblk
      refine wpAnyH_done (by decide +kernel) ?_ _
      show Oper.wp _ _ _ _ _ _
      go_simp
      go_wp2_with fail
      go_meet
      case rel =>
        have hs2 : ∀ g, (Value.slice sao sn scap).ownBlock = some g → g ≠ kb := own_not hs hblk (by decide)
        have hw2 : ∀ g, (Value.slice wao wn wcap).ownBlock = some g → g ≠ kb := own_not hw hblk (by decide)
        have ht := set4_touch wWAS kb (.slice none 0 0) (.int .i64 p.ticks) (.slice sao sn scap) (.slice wao wn wcap)
        exact ⟨kb, sao, sn, scap, wao, wn, wcap, rfl, set4_below bcur kb hk3 _ _ _ _, hk3, by simpa using hkb, set4_blk hblk, own_block hs (fun g hg => ht.block g (hs.lt g hg).2 (by simpa using hs2 g hg)), own_block hw (fun g hg => ht.block g (hw.lt g hg).2 (by simpa using hw2 g hg))⟩
  case rest =>
  obtain ⟨kb, sao, sn, scap, wao, wn, wcap, rfl, hbx, hkb0, hkb1, hblk, hsr, hwr⟩ := hcut
  generalize wc = W0 at *
  have hx4 := hx3.step hbx
  have k0 := hx4.c0
  have hst : QP w.heap.size W0 W0 p (fun i => way p.wires i r) kb (.slice sao sn scap) (.slice wao wn wcap) (.slice none 0 0) [] :=
    ⟨KTouch.refl _ _, hkb1, by omega, hblk, World.ownsRow_nil _ _ _ _, fun i u c h => (by simp at h), fun u hu => (by cases hu), Nat.zero_le _⟩
  have HSR : Hid (W0.ownsRow w3.heap.size 59 3 (.slice sao sn scap) p.spans.length (spCells p.spans) ∧ ∀ g, (Value.slice sao sn scap).ownBlock = some g → g ≠ kb) := ⟨hsr, own_not hsr hblk (by decide)⟩
  have HWR : Hid (W0.ownsRow w3.heap.size 83 4 (.slice wao wn wcap) p.wires.length (wrCells p.wires) ∧ ∀ g, (Value.slice wao wn wcap).ownBlock = some g → g ≠ kb) := ⟨hwr, own_not hwr hblk (by decide)⟩
  have HBX : Hid (Below w3.heap.size w3 W0) := hbx
  have hsz0 : w3.heap.size ≤ W0.heap.size := hbx.size
  have hxs := hx3.size
  clear hsr hwr hblk hbx
  obtain ⟨jj, hj, hy0, hy1, hy2⟩ := info_parts infoOps
  go_upto_region 11 with fail
  go_loopw [52] (fun i wr => ∃ us vo vn vk, i = .int .i64 (us.length : Nat) ∧ QP w.heap.size W0 wr p (fun i => way p.wires i r) kb (.slice sao sn scap) (.slice wao wn wcap) (.slice vo vn vk) us) (fun i _ => p.code.length - (intOf i).toNat)
  case atStart => exact ⟨[], none, 0, 0, rfl, hst⟩
  case round =>
    clear hst k0
    obtain ⟨us, vo, vn, vk, rfl, hq⟩ := hrel
    have hlen := hq.len
    have htk := hq.tk
    have hszr := htk.size
    have hbw : Below w.heap.size w wr := hx4.below.trans (htk.below (fun m hm => by rw [List.mem_singleton] at hm; omega) (by omega))
    by_cases hkl : us.length < p.code.length
    · have hki : (us.length : Int) < (p.code.length : Int) := by omega
      obtain ⟨cb, co, ua, un, ug, c, rfl, hclt, hcy, hcd, rfl, hops⟩ := HP.out.code.at hkl
      replace hcd := (hbw.cell (p := ⟨cb, _, none⟩) hclt).trans hcd
      have HCY : Hid (p.code[us.length]? = some c) := hcy
      have hcl : c.length ≤ 20 := (chk_zero (HCZ.out c (List.mem_of_getElem? hcy))).2.1
      have HOP : Hid (∀ W, Below wr.heap.size wr W → Ops W (.slice ua c.length ug) c) := fun W hb => hops.all (hbw.trans (hb.mono hbw.size))
      have hagn : wr.heap[ag]? = w3.heap[ag]? := (htk.block ag (by omega) (by simp; omega)).trans (HBX.out.block ag hag)
      have HHas : Hid (Calls Tryd.prog 45 #[.slice (some ⟨ag, 0, none⟩) L.length acap, .int .i64 us.length] wr fun e w' => e = .returned (.bool (way p.wires us.length r)) ∧ wr = w') := by
        have h := contains_ints L us.length ag 0 acap wr (by omega) (fun i y hy => (World.cell?_of_block (w := w3) (a := ⟨ag, 0 + i, none⟩) hagn).trans (HAC.out i y hy))
        rw [HL.out us.length (by omega)] at h
        exact h.mono (fun e w' h => ⟨h.1, h.2.symm⟩)
      have HQ : Hid (QP w.heap.size W0 wr p (fun i => way p.wires i r) kb (.slice sao sn scap) (.slice wao wn wcap) (.slice vo vn vk) us) := hq
      obtain ⟨c0, _, _, _, f0⟩ := hq.cs
      have hown0 := hq.own
      have hkr : kb < wr.heap.size := by omega
      clear hq hops hcy hbw htk hagn
      cases hway : way p.wires us.length r with
      | true =>
        rw [hway] at HHas
        have HWY : Hid (way p.wires us.length r = true) := hway
        clear hway
        have HCl : Hid (∀ W, Below wr.heap.size wr W → Calls Tryd.prog 31 #[.slice ua c.length ug] W fun e w' => ∃ ao n cap, e = .returned (.slice ao n cap) ∧ w'.ownsRow W.heap.size 57 3 (.slice ao n cap) c.length (spCells c) ∧ Below W.heap.size W w') := fun W hb => by
          refine (clone_ops c _ W (HOP.out W hb) (by omega)).mono ?_
          rintro e w' ⟨v, rfl, h1, h2⟩
          obtain ⟨ao, n, cap, rfl⟩ := own_form h1
          exact ⟨ao, n, cap, rfl, h1, h2⟩
        have bQ : Below wr.heap.size wr wr.drew := (Below.refl _ _).drew
        go_upto_region 14 with (go_at_call 45; refine HHas.out.mono ?_; rintro e w4 ⟨rfl, rfl⟩)
        refine wp_region_popped (fun W => W.cell? ⟨kb, 0, none⟩ = some (.slice vo vn vk)) (by kernel_rfl) rfl (by decide +kernel) c0 (fun hHeld => ?_)
        simp only [List.pop_toArray, List.dropLast_cons_cons, List.dropLast_singleton, List.size_toArray, List.length_cons, List.length_nil, Nat.reduceAdd, Array.replicate_succ, Array.replicate_zero, List.push_toArray, List.nil_append, List.cons_append]
        refine wpAnyH_take (i := 0) (v := ?_) rfl (by decide +kernel) (by decide +kernel) (by decide +kernel) (fun _ _ _ h => h) (Or.inl ⟨by rfl, ?_⟩) (by assumption) ?_
        rotate_left
        · intro W hSw
          try dsimp only at hSw
          go_simp
          try with_reducible rfl
        simp only [Act.put, List.setIfInBounds_toArray, List.set_cons_zero]
        refine wpAnyH_take (i := 1) (v := ?_) rfl (by decide +kernel) (by decide +kernel) (by decide +kernel) (fun _ _ _ h => h) (Or.inl ⟨by rfl, ?_⟩) (by assumption) ?_
        rotate_left
        · intro W hSw
          try dsimp only at hSw
          go_simp
          try with_reducible rfl
        simp only [Act.put, List.setIfInBounds_toArray, List.set_cons_zero, List.set_cons_succ]
        refine wpAnyH_take (i := 2) (v := ?_) rfl (by decide +kernel) (by decide +kernel) (by decide +kernel) (fun _ _ _ h => h) (Or.inl ⟨by rfl, ?_⟩) (by assumption) ?_
        rotate_left
        · intro W hSw
          try dsimp only at hSw
          go_simp
          try with_reducible rfl
        simp only [Act.put, List.setIfInBounds_toArray, List.set_cons_zero, List.set_cons_succ]
        refine wpAnyH_ready (rs := [3]) (by decide +kernel) (by simp) ?_
        refine AllReadyH.cons (o := _) rfl (fun K hK => ?_) AllReadyH.nil
        go_simp
        go_at_call 31
        refine (HCl.out _ bQ).mono ?_
        rintro e w8 ⟨ao, n8, cap8, rfl, hown8, b8⟩
        have hown8' := hown8
        replace b8 := bQ.trans (b8.mono (Nat.le_refl _))
        have s8 : w8.cell? ⟨kb, 0, none⟩ = some (.slice vo vn vk) := (b8.cell (p := ⟨kb, 0, none⟩) hkr).trans c0
        go_wp2_with fail
        refine hK.out _ _ s8 (fun hHeld => ?_)
        clear hK K
        simp only [List.setIfInBounds_toArray, List.set_cons_zero, List.set_cons_succ]
        refine wpAnyH_ready (rs := [4]) (by decide +kernel) (by simp) ?_
        refine AllReadyH.cons (o := _) rfl (fun K hK => ?_) AllReadyH.nil
        go_simp
        have b9 : Below wr.heap.size wr (w8.alloc (.cells #[.slice ao n8 cap8] 36)) := b8.alloc b8.size _
        have s9 : (w8.alloc (.cells #[.slice ao n8 cap8] 36)).cell? ⟨kb, 0, none⟩ = some (.slice vo vn vk) := (b9.cell (p := ⟨kb, 0, none⟩) hkr).trans c0
        refine hK.out _ _ s9 (fun hHeld => ?_)
        clear hK K
        simp only [List.setIfInBounds_toArray, List.set_cons_zero, List.set_cons_succ]
        refine wpAnyH_ready (rs := [5]) (by decide +kernel) (by simp) ?_
        refine AllReadyH.cons (o := _) rfl (fun K hK => ?_) AllReadyH.nil
        obtain ⟨iT, hiT, hz1, hz2, hz3⟩ := info3 infoOps
        have hro9 := own_below hown0 b9 (Nat.le_refl _)
        have hs09 : W0.heap.size ≤ (w8.alloc (.cells #[.slice ao n8 cap8] 36)).heap.size := Nat.le_trans hszr b9.size
        obtain ⟨cv2, wa9, hra, hown9, hgr9, hnw9⟩ := run_append_at (P := Tryd.prog) (w8.alloc (.cells #[.slice ao n8 cap8] 36)) 22 22 W0.heap.size 36 iT _ 1 24 (by kernel_rfl) hiT hz1 hz2 hz3 rfl (by decide) (.slice vo vn vk) us.length us hro9 ⟨w8.heap.size, 0, none⟩ 1 1 [.slice ao n8 cap8] rfl (one_new_at rfl _ _) (by simp [Value.oneCell']) (by have : maxLen = 9223372036854775807 := rfl; omega) (by omega) hs09
        clear hiT hz1 hz2 hz3
        obtain ⟨gv, ck, rfl⟩ : ∃ g cap, cv2 = .slice (some ⟨g, 0, none⟩) (us.length + 1) cap := own_succ hown9
        have hcr : ∀ k, (Value.slice vo vn vk).ownBlock = some k → W0.heap.size ≤ k := fun k hk => (hown0.lt k hk).1
        have hblk9 : wa9.heap[kb]? = wr.heap[kb]? := (hgr9.block kb (Nat.lt_of_lt_of_le hkr b9.size) (fun e => by have := hcr kb e.symm; omega)).trans (b9.block kb hkr)
        have s10 : wa9.cell? ⟨kb, 0, none⟩ = some (.slice vo vn vk) := (World.cell?_of_block (w := wr) (a := ⟨kb, 0, none⟩) hblk9).trans c0
        have f10 : wa9.frozen? ⟨kb, 0, none⟩ = false := (World.frozen?_of_block (w := wr) (a := ⟨kb, 0, none⟩) hblk9).trans f0
        have HM : Hid (QP w.heap.size W0 (wa9.setCell ⟨kb, 0, none⟩ (.slice (some ⟨gv, 0, none⟩) (us.length + 1) ck)) p (fun i => way p.wires i r) kb (.slice sao sn scap) (.slice wao wn wcap) (.slice (some ⟨gv, 0, none⟩) (us.length + 1) ck) (us ++ [.slice ao n8 cap8])) := HQ.out.more HCY.out b8 (by simp only [HWY.out, if_true]; exact gops_own hown8) (fun g hg => ⟨Or.inr (by have h := (hown8.lt g hg).1; exact h), (hown8.lt g hg).2⟩) hgr9 hown9 (fun g hg => by have := hnw9 g hg; simpa using this)
        refine step_append_eq rfl (.tmp 61) (.tmp 64) 22 rfl (.slice vo vn vk) (.slice (some ⟨w8.heap.size, 0, none⟩) 1 1) rfl rfl (.slice (some ⟨gv, 0, none⟩) (us.length + 1) ck) wa9 hra ?_
        refine hK.out _ _ s10 (fun hHeld => ?_)
        clear hK K
        simp only [Act.put, List.setIfInBounds_toArray, List.set_cons_zero, List.set_cons_succ]
        refine wpAnyH_take (i := 6) (v := ?_) rfl (by decide +kernel) (by decide +kernel) (by decide +kernel) (fun _ _ _ h => h) (Or.inl ⟨by rfl, ?_⟩) (by assumption) ?_
        rotate_left
        · intro W hSw
          try dsimp only at hSw
          go_simp
          try with_reducible rfl
        simp only [Act.put, List.setIfInBounds_toArray, List.set_cons_zero, List.set_cons_succ]
        refine wpAnyH_done (by decide +kernel) ?_ _
        show Oper.wp _ _ _ _ _ _
        go_simp
        clear hra hown9 hgr9 hnw9 s8 s9 s10 f10 hHeld b8 b9 hown8 hown8' hro9 hs09 hblk9 c0 f0 hcd HCl hcr HQ bQ
        generalize wa9.setCell ⟨kb, 0, none⟩ (.slice (some ⟨gv, 0, none⟩) (us.length + 1) ck) = W9 at HM ⊢
        go_wp2
        go_roundw
        case rel => exact ⟨us ++ [.slice ao n8 cap8], _, _, _, by rw [List.length_append, List.length_singleton]; go_num, HM.out⟩
        case measure => simp [intOf]; omega
      | false =>
        rw [hway] at HHas
        have HWY : Hid (way p.wires us.length r = false) := hway
        have hnk : wr.heap.size ≠ kb := by omega
        have qc2 : (wr.alloc (.cells #[.int .i64 10, .int .i64 0, .int .i64 0] 57)).cell? ⟨kb, 0, none⟩ = some (.slice vo vn vk) := (((Below.refl wr.heap.size wr).alloc (Nat.le_refl _) _).cell (p := ⟨kb, 0, none⟩) (show kb < wr.heap.size by omega)).trans c0
        clear hway
        go_wp2_with (first
          | (go_at_call 45; refine HHas.out.mono ?_; rintro e w4 ⟨rfl, rfl⟩)
          | (at_builtin; refine wpList_append_at _ rfl _ _ 22 rfl W0.heap.size 36 jj _ 1 24 Tryd.underlying22 hj hy0 hy1 hy2 rfl (by decide) _ _ _ rfl ((hown0.alloc _).alloc _) ⟨wr.heap.size + 1, 0, none⟩ 1 1 [.slice (some ⟨wr.heap.size, 0, none⟩) 1 1] rfl rfl ?c1A ?c2A ?c3A ?c4A ?c5A ?_))
        case c1A => exact one_new_at (by simp) _ _
        case c2A => intro u hu; simp at hu; subst hu; rfl
        case c3A => unfold maxLen; omega
        case c4A => omega
        case c5A => simp; omega
        intro v1 w8 own8 hg8 hnw8
        have hk8 : w8.heap[kb]? = wr.heap[kb]? := (hg8.block kb (by simp; omega) (fun e => by have := (hown0.lt kb e.symm).1; omega)).trans ((((Below.refl wr.heap.size wr).alloc (Nat.le_refl _) _).alloc (by simp) _).block _ (by omega))
        have s8 : w8.cell? ⟨kb, 0, none⟩ = some (.slice vo vn vk) := (World.cell?_of_block (w := wr) (a := ⟨kb, 0, none⟩) hk8).trans c0
        have g8 : w8.frozen? ⟨kb, 0, none⟩ = false := (World.frozen?_of_block (w := wr) (a := ⟨kb, 0, none⟩) hk8).trans f0
        obtain ⟨gb, cap8, rfl⟩ := own_succ own8
        have HM : Hid (QP w.heap.size W0 (w8.setCell ⟨kb, 0, none⟩ (.slice (some ⟨gb, 0, none⟩) (us.length + 1) cap8)) p (fun i => way p.wires i r) kb (.slice sao sn scap) (.slice wao wn wcap) (.slice (some ⟨gb, 0, none⟩) (us.length + 1) cap8) (us ++ [.slice (some ⟨wr.heap.size, 0, none⟩) 1 1])) := HQ.out.more HCY.out ((Below.refl _ _).alloc (Nat.le_refl _) _) (by simp only [HWY.out, Bool.false_eq_true, if_false]; exact rest_ops rfl) (fun g hg => by simp only [Value.ownBlock, Option.some.injEq] at hg; subst hg; exact ⟨Or.inr (Nat.le_refl _), by simp⟩) hg8 own8 (fun g hg => by have := hnw8 g hg; simpa using this)
        clear own8 hg8 hnw8 hown0 hk8
        go_wp2
        go_roundw
        case rel => exact ⟨us ++ [.slice (some ⟨wr.heap.size, 0, none⟩) 1 1], _, _, _, by rw [List.length_append, List.length_singleton]; go_num, HM.out⟩
        case measure => simp [intOf]; omega
    · have hul : us.length = p.code.length := by omega
      have hki : decide ((us.length : Int) < (p.code.length : Int)) = false := decide_eq_false (by omega)
      have hki' : decide (us.length < p.code.length) = false := decide_eq_false (by omega)
      obtain ⟨q0, q1, q2, q3, _⟩ := hq.cs
      have hzb : wr.heap[w.heap.size + 1]? = some (.cells #[.slice none 0 0, .int .i64 0, .slice none 0 0, .slice none 0 0] 26 (0, 0)) := (htk.block (w.heap.size + 1) (by omega) (by simp; omega)).trans ((HBX.out.block (w.heap.size + 1) (by omega)).trans ((HB3.out.block (w.heap.size + 1) (by omega)).trans HZ.out))
      obtain ⟨z0, z1, z2, z3, y0, y1, y2, y3⟩ := blk4_cs hzb
      have HQ : Hid (QP w.heap.size W0 wr p (fun i => way p.wires i r) kb (.slice sao sn scap) (.slice wao wn wcap) (.slice vo vn vk) us) := hq
      have hne : kb ≠ w.heap.size + 1 := by omega
      clear hq htk hzb
      go_wp2
      refine bodyPost_ret (v := .tuple #[plV (.slice vo vn vk) p.ticks (.slice sao sn scap) (.slice wao wn wcap), .nilIface]) ?_ rfl ⟨_, _, _, rfl, ?_, ?_⟩
      · simp [results, Tryd.results19, go_sem, plV, z0, z1, z2, z3]
      · have ht := set4_touch wr (w.heap.size + 1) (.slice vo vn vk) (.int .i64 p.ticks) (.slice sao sn scap) (.slice wao wn wcap)
        have hrow : ∀ g, w3.heap.size ≤ g → g < W0.heap.size → g ≠ kb → ((((wr.setCell ⟨w.heap.size + 1, 0, none⟩ (.slice vo vn vk)).setCell ⟨w.heap.size + 1, 1, none⟩ (.int .i64 p.ticks)).setCell ⟨w.heap.size + 1, 2, none⟩ (.slice sao sn scap)).setCell ⟨w.heap.size + 1, 3, none⟩ (.slice wao wn wcap)).heap[g]? = W0.heap[g]? := fun g h1 h2 h3 => (ht.block g (by omega) (by simp; omega)).trans (HQ.out.tk.block g h2 (by simp; omega))
        refine ⟨HQ.out.cds hul ht (fun m hm => by rw [List.mem_singleton] at hm; omega), sps_of_own (own_block HSR.out.1 (fun g hg => ?_)), wrs_of_own (own_block HWR.out.1 (fun g hg => ?_))⟩
        · have := HSR.out.1.lt g hg
          exact hrow g this.1 this.2 (HSR.out.2 g hg)
        · have := HWR.out.1.lt g hg
          exact hrow g this.1 this.2 (HWR.out.2 g hg)
      · exact set4_below hbw (w.heap.size + 1) (by omega) _ _ _ _
/-- Purge does what the laws ask of it. -/
theorem prg_purge {G : World → Prop} (hF : ∀ w, G w → Forms w) : PrgPurge G := fun p vc vs vw r W hG hP => by
  by_cases hp : plchk p = 0
  · by_cases hr : r < 0 ∨ (p.code.length : Int) ≤ r
    · have he : prgE p r = 1 := by
        unfold prgE
        rw [if_pos hp, if_pos hr]
      have hq : prgP p r = noPlan := by
        unfold prgP
        rw [if_neg (by omega)]
      rw [he, hq]
      refine (pg_out p vc vs vw r W (hF W hG) hP hp hr).mono ?_
      rintro e w' ⟨rfl, hb⟩
      exact ⟨_, _, _, rfl, ⟨Or.inl ⟨rfl, _, _, rfl⟩, Or.inl ⟨rfl, _, _, rfl⟩, Or.inl ⟨rfl, _, _, rfl⟩⟩, hb⟩
    · obtain ⟨r, rfl⟩ : ∃ m : Nat, r = m := ⟨r.toNat, by omega⟩
      have he : prgE p r = 0 := by
        unfold prgE
        rw [if_pos hp, if_neg hr]
      have hq : prgP p r = purgeP p (fun i => way p.wires i r) := by
        unfold prgP
        rw [if_pos he, Int.toNat_natCast]
      rw [he, hq]
      exact pg_ok p vc vs vw r W (hF W hG) hP hp (by omega)
  · have he : prgE p r = plchk p := by
      unfold prgE
      rw [if_neg hp]
    have hq : prgP p r = noPlan := by
      unfold prgP
      rw [if_neg (by rw [he]; exact hp)]
    rw [he, hq]
    refine (pg_no p vc vs vw r W (hF W hG) hP hp).mono ?_
    rintro e w' ⟨rfl, hb⟩
    exact ⟨_, _, _, rfl, ⟨Or.inl ⟨rfl, _, _, rfl⟩, Or.inl ⟨rfl, _, _, rfl⟩, Or.inl ⟨rfl, _, _, rfl⟩⟩, hb⟩
end Go.Proofs.YtfconbblnmbnpafDoor
namespace Go.Proofs.YtfconbblnmbnpafDoor
open Go.RowKit

set_option maxRecDepth 100000 in
set_option maxHeartbeats 8000000 in
theorem gput_ok (p : PD) (k : KD) (kb base : Nat) (a : GW) (r : Nat) (s' : St) (w : World) (hfm : Forms w) (h : GK w base p k kb a) (hp : plchk p = 0) (hk : KOk p k) (hr : r < p.code.length) (hs : ∀ c, p.code[r]? = some c → stOk s' c.length = true) :
    Calls Tryd.prog 63 #[.pointer (some ⟨kb, 0, none⟩), .int .i64 r, stA s'] w fun e w' => e = .returned .nilIface ∧ GK w' base p ⟨k.rooms.set r s', k.lines, k.time⟩ kb a ∧ KTouch [a.rb] w w' := by
  have hcz := (plchk_zero hp).2.2.2.2.2.2.1
  have hrk : k.rooms.length = p.code.length := hk.rl
  have hcd := h.src.here.1
  obtain ⟨ca, cc, hcv⟩ := hcd.form
  rw [hcv] at hcd
  obtain ⟨cb, co, ua, un, ug, c, rfl, hclt, hcy, hcc, rfl, hops⟩ := hcd.at hr
  have hrc : rchk c s' = 0 := by
    unfold rchk
    rw [if_pos (codesE_zero hcz c (List.mem_of_getElem? hcy)), if_pos (hs c hcy)]
  have HC : Hid (∀ W, Below w.heap.size w W → Calls Tryd.prog 57 #[.slice ua c.length ug, .agg #[.int .i64 s'.p, .int .i64 (s'.c 0), .int .i64 (s'.c 1), .int .i64 (s'.c 2), .int .i64 (s'.c 3), .int .i64 (s'.c 4), .int .i64 (s'.c 5), .bool s'.f]] W fun e w' => e = .returned .nilIface ∧ Below W.heap.size W w') := fun W hb => by
    have := rcheck_any c (.slice ua c.length ug) s' W (hfm.all hb) (hops.all hb)
    rw [hrc] at this
    exact this
  have hkb := h.lt.1
  have c0 := h.c0
  rw [hcv] at c0
  have c3 := h.c3
  rw [hrk] at c3
  have hri : (r : Int) < (p.code.length : Int) := by omega
  obtain ⟨s, hsr⟩ : ∃ s, k.rooms[r]? = some s := ⟨_, List.getElem?_eq_getElem (by omega)⟩
  have H : Hid (GK w base p k kb a) := h
  have HSR : Hid (k.rooms[r]? = some s) := hsr
  have hA : Below w.heap.size w (w.alloc (.cells #[.int .i64 s'.p, .int .i64 (s'.c 0), .int .i64 (s'.c 1), .int .i64 (s'.c 2), .int .i64 (s'.c 3), .int .i64 (s'.c 4), .int .i64 (s'.c 5), .bool s'.f] 39)) := (Below.refl _ _).alloc (Nat.le_refl _) _
  have hB : StB (w.alloc (.cells #[.int .i64 s'.p, .int .i64 (s'.c 0), .int .i64 (s'.c 1), .int .i64 (s'.c 2), .int .i64 (s'.c 3), .int .i64 (s'.c 4), .int .i64 (s'.c 5), .bool s'.f] 39)) w.heap.size s' := World.alloc_heap_new _ _
  have hnk := World.new_ne w ⟨kb, 3, none⟩ c3
  unfold stA
  clear h hs hcd hops hcy hrc hsr hcv hcz hk hfm
  go_enter Tryd.func63, Tryd.ntmps63
  go_upto_region 3 with (go_at_call 72; refine (kbelow_yes _ _ _ (by omega) hri).mono ?_; rintro e w1 ⟨rfl, hw1⟩; subst hw1)
  generalize w.alloc (.cells #[.int .i64 s'.p, .int .i64 (s'.c 0), .int .i64 (s'.c 1), .int .i64 (s'.c 2), .int .i64 (s'.c 3), .int .i64 (s'.c 4), .int .i64 (s'.c 5), .bool s'.f] 39) = W0 at hA hB ⊢
  have k0 : W0.cell? ⟨kb, 0, none⟩ = some (.slice (some ⟨cb, co, none⟩) p.code.length cc) := (hA.cell (p := ⟨kb, 0, none⟩) hkb).trans c0
  have k1 : W0.cell? ⟨cb, co + r, none⟩ = some (.slice ua c.length ug) := (hA.cell (p := ⟨cb, co + r, none⟩) hclt).trans hcc
  obtain ⟨n0, n1, n2, n3, n4, n5, n6, n7⟩ := hB.cs
  simp only [Nat.zero_add] at n1 n2 n3 n4 n5 n6 n7
  have bQ : Below w.heap.size w W0.drew := hA.drew
  go_cut [7] from 17 to 25 (fun s7 wx => s7 = .nilIface ∧ Below W0.heap.size W0 wx)
  case first =>
    go_region_with (go_at_call 57; refine (HC.out _ bQ).mono ?_; rintro e w1 ⟨rfl, b1⟩)
    all_goals
      go_wp2_with fail
      go_meet
      case rel => exact ⟨rfl, (Below.refl _ W0).drew.trans (b1.mono (Nat.le_refl _))⟩
  case rest =>
  obtain ⟨rfl, hb2⟩ := hcut
  have hb3 : Below w.heap.size w wc := hA.trans (hb2.mono hA.size)
  have hB3 : StB wc w.heap.size s' := (hb2.block _ (Array.getElem?_eq_some_iff.1 hB).1).trans hB
  clear n0 n1 n2 n3 n4 n5 n6 n7 k0 k1 hB hA hb2 bQ HC
  generalize wc = W3 at *
  obtain ⟨n0, n1, n2, n3, n4, n5, n6, n7⟩ := hB3.cs
  simp only [Nat.zero_add] at n1 n2 n3 n4 n5 n6 n7
  have D := H.out.all hb3
  have k3 := D.c3
  rw [hrk] at k3
  have hth : ∀ nq, (W3.drewN nq).there a.rb (r * 8) 8 := fun nq => there_st (D.rooms r s HSR.out) D.rf nq
  go_upto_region 6 with fail
  go_cut [29] from 29 to 35 (fun _ wx => ∃ nq, wx = setSt (W3.drewN nq) a.rb (r * 8) s')
  case first =>
    refine wp_region_quiet_last (by kernel_rfl) rfl (by decide +kernel) (by decide +kernel) ?_
    simp only [List.dropLast_cons_cons, List.dropLast_singleton]
    repeat (go_big_quiet_step (fail))
    refine wpQuiet_nil ?_
    intro _ hw'
    obtain ⟨nq, hw''⟩ := hw'
    subst hw''
    refine wp_store_mid _ _ _ rfl a.rb (r * 8) _ rfl rfl (hth nq) rfl (by simp [Value.oneCell']) ?_
    go_wp2_with fail
    go_meet
    case rel => exact ⟨nq, rfl⟩
  case rest =>
  obtain ⟨nq, hwx⟩ := hcut
  have bN : Below W3.heap.size W3 (W3.drewN nq) := below_dN (Below.refl _ _) nq
  have D9 := (D.all bN).set HSR.out s'
  have tk9 : KTouch [a.rb] W3 (setSt (W3.drewN nq) a.rb (r * 8) s') := (KTouch.of bN).trans (setSt_touch _ (by simp) _ _)
  rw [← hwx] at D9 tk9
  have tkw : KTouch [a.rb] w wc := (KTouch.of hb3).trans tk9
  clear hwx
  go_wp2
  go_ret
  exact ⟨rfl, D9, tkw⟩
end Go.Proofs.YtfconbblnmbnpafDoor
