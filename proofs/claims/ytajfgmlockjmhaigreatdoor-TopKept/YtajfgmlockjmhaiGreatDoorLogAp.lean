/-
  Package log: apply: what a record says is done to a kernel.
-/
import Derived.Test.YtajfgmlockjmhaiGreatDoorJt8
import Derived.Test.YtajfgmlockjmhaiGreatDoorJt4
import Derived.Test.YtajfgmlockjmhaiGreatDoorJt1
import Derived.Deep.RegionHeld3
import Derived.Deep.CutRange
import Derived.Deep.RegionWith
import Derived.BigQuiet
import Derived.RangeFuncNested
namespace Go.Proofs.YtajfgmlockjmhaiGreatDoor
open Go.RowKit
/-- Numbers in a block of their own, apart from others. -/
def Nums (w : World) (F : List Nat) (v : Value) (ns : List Int) : Prop := (v = .slice none 0 0 ∧ ns = []) ∨ ∃ b cap, v = .slice (some ⟨b, 0, none⟩) ns.length cap ∧ b < w.heap.size ∧ b ∉ F ∧ ∀ (i : Nat) z, ns[i]? = some z → w.cell? ⟨b, i, none⟩ = some (.int .i64 z)
theorem Nums.ints {w : World} {F : List Nat} {v : Value} {ns : List Int} (h : Nums w F v ns) : Ints w v ns := by
  rcases h with h | ⟨b, cap, rfl, hb, _, hc⟩
  · exact Or.inl h
  · exact Or.inr ⟨⟨b, 0, none⟩, cap, rfl, hb, fun i z hz => by rw [Addr.add_lit, Nat.zero_add]; exact hc i z hz⟩
theorem Nums.all {w w' : World} {F : List Nat} {v : Value} {ns : List Int} (h : Nums w F v ns) (hb : Below w.heap.size w w') : Nums w' F v ns := by
  rcases h with h | ⟨b, cap, rfl, hlt, hF, hc⟩
  · exact Or.inl h
  · exact Or.inr ⟨b, cap, rfl, Nat.lt_of_lt_of_le hlt hb.size, hF, fun i z hz => (hb.cell (p := ⟨b, i, none⟩) hlt).trans (hc i z hz)⟩
theorem Nums.touch {w w' : World} {F : List Nat} {v : Value} {ns : List Int} (h : Nums w F v ns) (ht : KTouch F w w') : Nums w' F v ns := by
  rcases h with h | ⟨b, cap, rfl, hlt, hF, hc⟩
  · exact Or.inl h
  · exact Or.inr ⟨b, cap, rfl, Nat.lt_of_lt_of_le hlt ht.size, hF, fun i z hz => (World.cell?_of_block (w := w) (w' := w') (a := ⟨b, i, none⟩) (ht.block b hlt hF)).trans (hc i z hz)⟩
theorem Nums.sub {w : World} {F F' : List Nat} {v : Value} {ns : List Int} (h : Nums w F v ns) (hs : ∀ g ∈ F', g ∈ F) : Nums w F' v ns := by
  rcases h with h | ⟨b, cap, rfl, hlt, hF, hc⟩
  · exact Or.inl h
  · exact Or.inr ⟨b, cap, rfl, hlt, fun hm => hF (hs b hm), hc⟩
theorem Nums.own {w : World} {F : List Nat} {base : Nat} {v : Value} {ns : List Int} (h : w.ownsRow base 3 1 v ns.length (ns.map (Value.int .i64))) (hF : ∀ g ∈ F, g < base) : Nums w F v ns := by
  have hl := h.lt
  have hcs := @World.ownsRow.cells _ _ _ _ _ _ _ h
  rcases h.2 with ⟨rfl, h0⟩ | ⟨g, cap, cur, rfl, hbg, _⟩
  · exact Or.inl ⟨rfl, List.eq_nil_of_length_eq_zero h0⟩
  · refine Or.inr ⟨g, cap, rfl, (hl g rfl).2, fun hm => ?_, fun i z hz => ?_⟩
    · have := hF g hm
      omega
    · have := hcs rfl i (.int .i64 z) (by simp [hz])
      rwa [Addr.add_lit, Nat.zero_add] at this
/-- One call behind another, each on its own blocks, and what is new. -/
theorem KTouch.chain {F F' : List Nat} {a b c : World} (h : KTouch F a b) (hn : ∀ g ∈ F', g ∈ F ∨ a.heap.size ≤ g) (t : KTouch F' b c) : KTouch F a c :=
  ⟨t.os.trans h.os, t.tape.trans h.tape, t.output.trans h.output, Nat.le_trans h.size t.size, fun k hk hm => (t.block k (Nat.lt_of_lt_of_le hk h.size) (fun hm' => by
    rcases hn k hm' with e | e
    · exact hm e
    · omega)).trans (h.block k hk hm)⟩
theorem KTouch.chainN {F F' F2 : List Nat} {a b : World} (h : KTouch F a b) (hn : ∀ g ∈ F', g ∈ F ∨ a.heap.size ≤ g) (hn2 : ∀ g ∈ F2, g ∈ F' ∨ b.heap.size ≤ g) : ∀ g ∈ F2, g ∈ F ∨ a.heap.size ≤ g := fun g hg => by
  rcases hn2 g hg with e | e
  · exact hn g e
  · exact Or.inr (Nat.le_trans h.size e)
section
variable {G : World → Prop} {D : KerC G} {w0 : World} {p : PD} {vc vs vw : Value} {k : KD} {kb : Nat} {F : List Nat}

set_option maxRecDepth 100000 in
set_option maxHeartbeats 4000000 in
theorem lgapply_go (n : Int) (b cap : Nat) (off : Nat) (W : World) (hG : G w0) (hK : D.K w0 W p vc vs vw k kb F) (hp : plchk p = 0) (hk : KOk p k) (ht : k.time + 999 < 100000000) (hc : W.cell? ⟨b, off, none⟩ = some (.int .i64 n)) (h0 : 0 ≤ n) (h1 : n ≤ 999) :
    Calls Tryz.prog 87 #[.pointer (some ⟨kb, 0, none⟩), .string ⟨#[103, 111]⟩, .slice (some ⟨b, off, none⟩) 1 cap] W fun e w' => (∃ v, e = .returned v) ∧ ∃ F', D.K w0 w' p vc vs vw (ticksK p n.toNat k) kb F' ∧ KTouch F W w' ∧ ∀ g ∈ F', g ∈ F ∨ W.heap.size ≤ g := by
  obtain ⟨m, rfl⟩ : ∃ m : Nat, n = m := ⟨n.toNat, by omega⟩
  rw [Int.toNat_natCast]
  have HTK : Hid (∀ (j : Nat) W F', j < m → D.K w0 W p vc vs vw (ticksK p j k) kb F' → Calls Tryz.prog 12 #[.pointer (some ⟨kb, 0, none⟩)] W fun e w' => (∃ v, e = .returned v) ∧ ∃ F2, D.K w0 w' p vc vs vw (ticksK p (j + 1) k) kb F2 ∧ KTouch F' W w' ∧ ∀ g ∈ F2, g ∈ F' ∨ W.heap.size ≤ g) := fun j W F' hj h => by
    refine (D.tick hG h hp (ticksK_ok hp j hk) (by rw [ticksK_time]; omega)).mono ?_
    rintro e w' ⟨rfl, F2, a1, a2, a3⟩
    exact ⟨⟨_, rfl⟩, F2, a1, a2, a3⟩
  have HGE : Hid (∀ W F', D.K w0 W p vc vs vw k kb F' → True) := fun _ _ _ => trivial
  have hs1 : ((⟨#[103, 111]⟩ : ByteArray) == ⟨#[103, 111]⟩) = true := by decide
  clear hk ht hp hG HGE
  go_enter Tryz.func87, Tryz.ntmps87
  go_upto_region 2 with fail
  go_loopw [17] (fun i wr => ∃ (j : Nat) (F' : List Nat), j ≤ m ∧ i = .int .i64 j ∧ D.K w0 wr p vc vs vw (ticksK p j k) kb F' ∧ KTouch F W wr ∧ ∀ g ∈ F', g ∈ F ∨ W.heap.size ≤ g) (fun i _ => m - (intOf i).toNat)
  case atStart => exact ⟨0, F, Nat.zero_le _, rfl, hK, KTouch.refl _ _, fun g hg => Or.inl hg⟩
  case round =>
    clear hK
    obtain ⟨j, F', hj, rfl, hK, htk, hn⟩ := hrel
    by_cases hjm : j < m
    · have hji : (j : Int) < (m : Int) := by omega
      have q1 := HTK.out j wr F' hjm hK
      have HT : Hid (KTouch F W wr ∧ ∀ g ∈ F', g ∈ F ∨ W.heap.size ≤ g) := ⟨htk, hn⟩
      clear hK htk hn
      go_wp2_with (go_at_call 12; refine q1.mono ?_; rintro e w1 ⟨⟨v1, rfl⟩, F2, hK2, tk2, hn2⟩; clear q1)
      go_roundw
      case rel => exact ⟨j + 1, F2, by omega, by go_num, hK2, KTouch.chain HT.out.1 HT.out.2 tk2, KTouch.chainN HT.out.1 HT.out.2 hn2⟩
      case measure => simp [intOf]; omega
    · obtain rfl : j = m := by omega
      have hji : decide ((j : Int) < (j : Int)) = false := decide_eq_false (by omega)
      have hjn : decide (j < j) = false := decide_eq_false (by omega)
      go_wp2
      go_end0
      exact ⟨⟨_, rfl⟩, F', hK, htk, hn⟩
set_option maxRecDepth 100000 in
set_option maxHeartbeats 4000000 in
theorem lgapply_poke (r c n : Int) (b cap : Nat) (off : Nat) (W : World) (DP : KerPoke D) (hb : b < W.heap.size) (hbF : b ∉ F) (hK : D.K w0 W p vc vs vw k kb F) (hp : plchk p = 0) (hk : KOk p k) (hc0 : W.cell? ⟨b, off, none⟩ = some (.int .i64 r)) (hc1 : W.cell? ⟨b, off + 1, none⟩ = some (.int .i64 c)) (hc2 : W.cell? ⟨b, off + 2, none⟩ = some (.int .i64 n)) :
    Calls Tryz.prog 87 #[.pointer (some ⟨kb, 0, none⟩), .string ⟨#[112, 111, 107, 101]⟩, .slice (some ⟨b, off, none⟩) 3 cap] W fun e w' => (∃ v, e = .returned v) ∧ ∃ F', D.K w0 w' p vc vs vw (pokeK k r c n) kb F' ∧ KTouch F W w' ∧ ∀ g ∈ F', g ∈ F ∨ W.heap.size ≤ g := by
  have hq := fun W' (hb : Below W.heap.size W W') => DP r c n (D.frame hK (KTouch.of (M := []) hb) (by simp)) hk hp
  have HQ : Hid (∀ W', Below W.heap.size W W' → Calls Tryz.prog 129 #[.pointer (some ⟨kb, 0, none⟩), .int .i64 r, .int .i64 c, .int .i64 n] W' fun e w' => (∃ v, e = .returned v) ∧ ∃ F', D.K w0 w' p vc vs vw (pokeK k r c n) kb F' ∧ KTouch F W w' ∧ ∀ g ∈ F', g ∈ F ∨ W.heap.size ≤ g) := fun W' hb' => by
    refine (hq W' hb').mono ?_
    rintro e w' ⟨rfl, F', a1, a2, a3⟩
    refine ⟨⟨_, rfl⟩, F', a1, (KTouch.of hb').trans a2, fun g hg => ?_⟩
    rcases a3 g hg with e | e
    · exact Or.inl e
    · exact Or.inr (Nat.le_trans hb'.size e)
  have hs1 : ((⟨#[112, 111, 107, 101]⟩ : ByteArray) == ⟨#[103, 111]⟩) = false := by decide
  have hs2 : ((⟨#[112, 111, 107, 101]⟩ : ByteArray) == ⟨#[112, 111, 107, 101]⟩) = true := by decide
  clear hK hp hk hq
  go_enter Tryz.func87, Tryz.ntmps87
  go_upto_region 6 with fail
  have HS : Hid (∀ W', KTouch F W W' → W'.cell? ⟨b, off, none⟩ = some (.int .i64 r) ∧ W'.cell? ⟨b, off + 1, none⟩ = some (.int .i64 c) ∧ W'.cell? ⟨b, off + 2, none⟩ = some (.int .i64 n)) := fun W' h => by
    have e := fun o => World.cell?_of_block (w := W) (w' := W') (a := ⟨b, o, none⟩) (h.block b hb hbF)
    exact ⟨(e _).trans hc0, (e _).trans hc1, (e _).trans hc2⟩
  refine wp_region_held_drew (S := fun W' => W'.cell? ⟨b, off, none⟩ = some (.int .i64 r) ∧ W'.cell? ⟨b, off + 1, none⟩ = some (.int .i64 c) ∧ W'.cell? ⟨b, off + 2, none⟩ = some (.int .i64 n)) (by kernel_rfl) (HS.out _ (KTouch.of (Below.refl _ _).drew)) (fun hHeld => ?_)
  simp only [List.size_toArray, List.length_cons, List.length_nil, Nat.reduceAdd, Array.replicate_succ, Array.replicate_zero, List.push_toArray, List.nil_append, List.cons_append]
  refine wpAnyH_take (i := 0) (v := ?_) rfl (by decide +kernel) (by decide +kernel) (by decide +kernel) (fun _ _ _ h => h) (Or.inl ⟨by rfl, ?_⟩) (by assumption) ?_
  rotate_left
  · intro W hSw
    try dsimp only at hSw
    obtain ⟨hS1, hS2, hS3⟩ := hSw
    go_simp
    try with_reducible rfl
  simp only [Act.put, List.setIfInBounds_toArray, List.set_cons_zero]
  refine wpAnyH_take (i := 1) (v := ?_) rfl (by decide +kernel) (by decide +kernel) (by decide +kernel) (fun _ _ _ h => h) (Or.inl ⟨by rfl, ?_⟩) (by assumption) ?_
  rotate_left
  · intro W hSw
    try dsimp only at hSw
    obtain ⟨hS1, hS2, hS3⟩ := hSw
    go_simp
    try with_reducible rfl
  simp only [Act.put, List.setIfInBounds_toArray, List.set_cons_zero, List.set_cons_succ]
  refine wpAnyH_take (i := 2) (v := ?_) rfl (by decide +kernel) (by decide +kernel) (by decide +kernel) (fun _ _ _ h => h) (Or.inl ⟨by rfl, ?_⟩) (by assumption) ?_
  rotate_left
  · intro W hSw
    try dsimp only at hSw
    obtain ⟨hS1, hS2, hS3⟩ := hSw
    go_simp
    try with_reducible rfl
  simp only [Act.put, List.setIfInBounds_toArray, List.set_cons_zero, List.set_cons_succ]
  refine wpAnyH_take (i := 3) (v := ?_) rfl (by decide +kernel) (by decide +kernel) (by decide +kernel) (fun _ _ _ h => h) (Or.inl ⟨by rfl, ?_⟩) (by assumption) ?_
  rotate_left
  · intro W hSw
    try dsimp only at hSw
    obtain ⟨hS1, hS2, hS3⟩ := hSw
    go_simp
    try with_reducible rfl
  simp only [Act.put, List.setIfInBounds_toArray, List.set_cons_zero, List.set_cons_succ]
  refine wpAnyH_take (i := 4) (v := ?_) rfl (by decide +kernel) (by decide +kernel) (by decide +kernel) (fun _ _ _ h => h) (Or.inl ⟨by rfl, ?_⟩) (by assumption) ?_
  rotate_left
  · intro W hSw
    try dsimp only at hSw
    obtain ⟨hS1, hS2, hS3⟩ := hSw
    go_simp
    try with_reducible rfl
  simp only [Act.put, List.setIfInBounds_toArray, List.set_cons_zero, List.set_cons_succ]
  refine wpAnyH_take (i := 5) (v := ?_) rfl (by decide +kernel) (by decide +kernel) (by decide +kernel) (fun _ _ _ h => h) (Or.inl ⟨by rfl, ?_⟩) (by assumption) ?_
  rotate_left
  · intro W hSw
    try dsimp only at hSw
    obtain ⟨hS1, hS2, hS3⟩ := hSw
    go_simp
    try with_reducible rfl
  simp only [Act.put, List.setIfInBounds_toArray, List.set_cons_zero, List.set_cons_succ]
  refine wpAnyH_take (i := 6) (v := ?_) rfl (by decide +kernel) (by decide +kernel) (by decide +kernel) (fun _ _ _ h => h) (Or.inl ⟨by rfl, ?_⟩) (by assumption) ?_
  rotate_left
  · intro W hSw
    try dsimp only at hSw
    obtain ⟨hS1, hS2, hS3⟩ := hSw
    go_simp
    try with_reducible rfl
  simp only [Act.put, List.setIfInBounds_toArray, List.set_cons_zero, List.set_cons_succ]
  refine wpAnyH_take (i := 7) (v := ?_) rfl (by decide +kernel) (by decide +kernel) (by decide +kernel) (fun _ _ _ h => h) (Or.inl ⟨by rfl, ?_⟩) (by assumption) ?_
  rotate_left
  · intro W hSw
    try dsimp only at hSw
    obtain ⟨hS1, hS2, hS3⟩ := hSw
    go_simp
    try with_reducible rfl
  simp only [Act.put, List.setIfInBounds_toArray, List.set_cons_zero, List.set_cons_succ]
  refine wpAnyH_take (i := 8) (v := ?_) rfl (by decide +kernel) (by decide +kernel) (by decide +kernel) (fun _ _ _ h => h) (Or.inl ⟨by rfl, ?_⟩) (by assumption) ?_
  rotate_left
  · intro W hSw
    try dsimp only at hSw
    obtain ⟨hS1, hS2, hS3⟩ := hSw
    go_simp
    try with_reducible rfl
  simp only [Act.put, List.setIfInBounds_toArray, List.set_cons_zero, List.set_cons_succ]
  refine wpAnyH_take (i := 9) (v := ?_) rfl (by decide +kernel) (by decide +kernel) (by decide +kernel) (fun _ _ _ h => h) (Or.inl ⟨by rfl, ?_⟩) (by assumption) ?_
  rotate_left
  · intro W hSw
    try dsimp only at hSw
    obtain ⟨hS1, hS2, hS3⟩ := hSw
    go_simp
    try with_reducible rfl
  simp only [Act.put, List.setIfInBounds_toArray, List.set_cons_zero, List.set_cons_succ]
  have bD : Below W.heap.size W W.drew := (Below.refl _ _).drew
  generalize W.drew = wD at bD hHeld ⊢
  refine wpAnyH_ready (rs := [10]) (by decide +kernel) (by simp) ?_
  refine AllReadyH.cons (o := _) rfl (fun K hK => ?_) AllReadyH.nil
  go_simp
  go_at_call 129
  refine (HQ.out _ bD).mono ?_
  rintro e w1 ⟨⟨v1, rfl⟩, F', a1, a2, a3⟩
  go_wp2_with fail
  refine hK.out _ _ (HS.out _ a2) (fun hHeld => ?_)
  clear hK K
  simp only [List.setIfInBounds_toArray, List.set_cons_zero, List.set_cons_succ]
  refine wpAnyH_done (by decide +kernel) ?_ _
  go_wp2_with fail
  go_end0
  exact ⟨⟨_, rfl⟩, F', a1, a2, a3⟩
set_option maxRecDepth 100000 in
set_option maxHeartbeats 4000000 in
theorem lgapply_else (s : ByteArray) (ao : Option Addr) (n cap : Nat) (W : World) (h1 : s.toList = [103, 111] → n ≠ 1) (h2 : s.toList = [112, 111, 107, 101] → n ≠ 3) :
    Calls Tryz.prog 87 #[.pointer (some ⟨kb, 0, none⟩), .string s, .slice ao n cap] W fun e w' => (∃ v, e = .returned v) ∧ w' = W := by
  by_cases hs1 : s.toList = [103, 111]
  · have hn := h1 hs1
    have hn1 : ((n : Int) == 1) = false := by simp; omega
    have hn2 : (n == 1) = false := by simpa using hn
    have hs2 : ¬ s.toList = [112, 111, 107, 101] := by rw [hs1]; decide
    have hb1 : (s.toList == [103, 111]) = true := by simpa using hs1
    have hb2 : (s.toList == [112, 111, 107, 101]) = false := by simpa using hs2
    clear h1 h2
    go_enter Tryz.func87, Tryz.ntmps87
    go_wp2
    go_end0
    exact ⟨⟨_, rfl⟩, rfl⟩
  · have hb1 : (s.toList == [103, 111]) = false := by simpa using hs1
    by_cases hs2 : s.toList = [112, 111, 107, 101]
    · have hn := h2 hs2
      have hn1 : ((n : Int) == 3) = false := by simp; omega
      have hn2 : (n == 3) = false := by simpa using hn
      have hb2 : (s.toList == [112, 111, 107, 101]) = true := by simpa using hs2
      clear h1 h2
      go_enter Tryz.func87, Tryz.ntmps87
      go_wp2
      go_end0
      exact ⟨⟨_, rfl⟩, rfl⟩
    · have hb2 : (s.toList == [112, 111, 107, 101]) = false := by simpa using hs2
      clear h1 h2
      go_enter Tryz.func87, Tryz.ntmps87
      go_wp2
      go_end0
      exact ⟨⟨_, rfl⟩, rfl⟩
/-- What a record says, of any word and numbers. -/
theorem lgapply_any (wd : List UInt8) (ns : List Int) (v : Value) (W : World) (DP : KerPoke D) (hG : G w0) (hK : D.K w0 W p vc vs vw k kb F) (hp : plchk p = 0) (hk : KOk p k) (ht : k.time + 999 < 100000000) (hv : Nums W F v ns) (hn : ∀ n ∈ ns, 0 ≤ n ∧ n ≤ 999) :
    Calls Tryz.prog 87 #[.pointer (some ⟨kb, 0, none⟩), .string ⟨wd.toArray⟩, v] W fun e w' => (∃ v, e = .returned v) ∧ ∃ F', D.K w0 w' p vc vs vw (doW p k wd ns) kb F' ∧ KTouch F W w' ∧ ∀ g ∈ F', g ∈ F ∨ W.heap.size ≤ g := by
  obtain ⟨ao, cap, hvv⟩ : ∃ ao cap, v = .slice ao ns.length cap := by
    rcases hv with ⟨rfl, rfl⟩ | ⟨b, cap, rfl, _⟩
    · exact ⟨_, _, rfl⟩
    · exact ⟨_, _, rfl⟩
  unfold doW
  by_cases h1 : wd = goW ∧ ns.length = 1
  · rw [if_pos h1]
    obtain ⟨rfl, hl⟩ := h1
    obtain ⟨n, rfl⟩ : ∃ n, ns = [n] := by
      match ns, hl with
      | [n], _ => exact ⟨n, rfl⟩
    rcases hv with ⟨_, he⟩ | ⟨b, cap, rfl, hb, hbF, hc⟩
    · cases he
    · have hn0 := hn n (by simp)
      exact lgapply_go n b cap 0 W hG hK hp hk ht (hc 0 n rfl) hn0.1 hn0.2
  · rw [if_neg h1]
    by_cases h2 : wd = pokeW ∧ ns.length = 3
    · rw [if_pos h2]
      obtain ⟨rfl, hl⟩ := h2
      obtain ⟨r, c, n, rfl⟩ : ∃ r c n, ns = [r, c, n] := by
        match ns, hl with
        | [r, c, n], _ => exact ⟨r, c, n, rfl⟩
      rcases hv with ⟨_, he⟩ | ⟨b, cap, rfl, hb, hbF, hc⟩
      · cases he
      · exact lgapply_poke r c n b cap 0 W DP hb hbF hK hp hk (hc 0 r rfl) (hc 1 c rfl) (hc 2 n rfl)
    · rw [if_neg h2, hvv]
      refine (lgapply_else ⟨wd.toArray⟩ ao ns.length cap W (fun h => ?_) (fun h => ?_)).mono ?_
      · exact fun hl => h1 ⟨by rw [Lib.toList_data] at h; exact h, hl⟩
      · exact fun hl => h2 ⟨by rw [Lib.toList_data] at h; exact h, hl⟩
      · rintro e w' ⟨hr, hw⟩
        subst hw
        exact ⟨hr, F, hK, KTouch.refl _ _, fun g hg => Or.inl hg⟩
end
end Go.Proofs.YtajfgmlockjmhaiGreatDoor
