/-
  LogAp, Read7: joined into one text.
-/
import Derived.Test.YtajfgmlockjmhaiGreatDoorJt6
import Derived.Test.YtajfgmlockjmhaiGreatDoorJt3
import Derived.Test.YtajfgmlockjmhaiGreatDoorJt1
import Derived.Deep.RegionHeld3
import Derived.Deep.CutRange
import Derived.Deep.RegionWith
import Derived.BigQuiet
import Derived.RangeFuncNested
import Derived.Test.YtajfgmlockjmhaiGreatDoorJt7
import Derived.Maps.AppendAt
namespace Go.Proofs.YtajfgmlockjmhaiGreatDoor
open Go.RowKit
/-- Numbers in a block of their own, apart from others. -/
def Nums (w : World) (F : List Nat) (v : Value) (ns : List Int) : Prop := (v = .slice none 0 0 ∧ ns = []) ∨ ∃ b cap, v = .slice (some ⟨b, 0, none⟩) ns.length cap ∧ b < w.heap.size ∧ b ∉ F ∧ ∀ (i : Nat) z, ns[i]? = some z → w.cell? ⟨b, i, none⟩ = some (.int .i64 z)
theorem Nums.ints {w : World} {F : List Nat} {v : Value} {ns : List Int} (h : Nums w F v ns) : Ints w v ns := by
  rcases h with h | ⟨b, cap, rfl, hb, _, hc⟩
  · exact Or.inl h
  · exact Or.inr ⟨⟨b, 0, none⟩, cap, rfl, hb, fun i z hz => by rw [Addr.add_lit, Nat.zero_add]; exact hc i z hz⟩
theorem Nums.all {w w' : World} {F : List Nat} {v : Value} {ns : List Int} (h : Nums w F v ns) (hb : Below w.heap.size w w') : Nums w' F v ns := by
  rcases h with h | ⟨b, cap, rfl, hlt, hF, hc⟩
  · exact Or.inl h
  · exact Or.inr ⟨b, cap, rfl, Nat.lt_of_lt_of_le hlt hb.size, hF, fun i z hz => (hb.cell (p := ⟨b, i, none⟩) hlt).trans (hc i z hz)⟩
theorem Nums.touch {w w' : World} {F : List Nat} {v : Value} {ns : List Int} (h : Nums w F v ns) (ht : KTouch F w w') : Nums w' F v ns := by
  rcases h with h | ⟨b, cap, rfl, hlt, hF, hc⟩
  · exact Or.inl h
  · exact Or.inr ⟨b, cap, rfl, Nat.lt_of_lt_of_le hlt ht.size, hF, fun i z hz => (World.cell?_of_block (w := w) (w' := w') (a := ⟨b, i, none⟩) (ht.block b hlt hF)).trans (hc i z hz)⟩
theorem Nums.sub {w : World} {F F' : List Nat} {v : Value} {ns : List Int} (h : Nums w F v ns) (hs : ∀ g ∈ F', g ∈ F) : Nums w F' v ns := by
  rcases h with h | ⟨b, cap, rfl, hlt, hF, hc⟩
  · exact Or.inl h
  · exact Or.inr ⟨b, cap, rfl, hlt, fun hm => hF (hs b hm), hc⟩
theorem Nums.own {w : World} {F : List Nat} {base : Nat} {v : Value} {ns : List Int} (h : w.ownsRow base 3 1 v ns.length (ns.map (Value.int .i64))) (hF : ∀ g ∈ F, g < base) : Nums w F v ns := by
  have hl := h.lt
  have hcs := @World.ownsRow.cells _ _ _ _ _ _ _ h
  rcases h.2 with ⟨rfl, h0⟩ | ⟨g, cap, cur, rfl, hbg, _⟩
  · exact Or.inl ⟨rfl, List.eq_nil_of_length_eq_zero h0⟩
  · refine Or.inr ⟨g, cap, rfl, (hl g rfl).2, fun hm => ?_, fun i z hz => ?_⟩
    · have := hF g hm
      omega
    · have := hcs rfl i (.int .i64 z) (by simp [hz])
      rwa [Addr.add_lit, Nat.zero_add] at this
/-- One call behind another, each on its own blocks, and what is new. -/
theorem KTouch.chain {F F' : List Nat} {a b c : World} (h : KTouch F a b) (hn : ∀ g ∈ F', g ∈ F ∨ a.heap.size ≤ g) (t : KTouch F' b c) : KTouch F a c :=
  ⟨t.os.trans h.os, t.tape.trans h.tape, t.output.trans h.output, Nat.le_trans h.size t.size, fun k hk hm => (t.block k (Nat.lt_of_lt_of_le hk h.size) (fun hm' => by
    rcases hn k hm' with e | e
    · exact hm e
    · omega)).trans (h.block k hk hm)⟩
theorem KTouch.chainN {F F' F2 : List Nat} {a b : World} (h : KTouch F a b) (hn : ∀ g ∈ F', g ∈ F ∨ a.heap.size ≤ g) (hn2 : ∀ g ∈ F2, g ∈ F' ∨ b.heap.size ≤ g) : ∀ g ∈ F2, g ∈ F ∨ a.heap.size ≤ g := fun g hg => by
  rcases hn2 g hg with e | e
  · exact hn g e
  · exact Or.inr (Nat.le_trans h.size e)
section
variable {G : World → Prop} {D : KerC G} {w0 : World} {p : PD} {vc vs vw : Value} {k : KD} {kb : Nat} {F : List Nat}

set_option maxRecDepth 100000 in
set_option maxHeartbeats 4000000 in
theorem lgapply_go (n : Int) (b cap : Nat) (off : Nat) (W : World) (hG : G w0) (hK : D.K w0 W p vc vs vw k kb F) (hp : plchk p = 0) (hk : KOk p k) (ht : k.time + 999 < 100000000) (hc : W.cell? ⟨b, off, none⟩ = some (.int .i64 n)) (h0 : 0 ≤ n) (h1 : n ≤ 999) :
    Calls Tryz.prog 87 #[.pointer (some ⟨kb, 0, none⟩), .string ⟨#[103, 111]⟩, .slice (some ⟨b, off, none⟩) 1 cap] W fun e w' => (∃ v, e = .returned v) ∧ ∃ F', D.K w0 w' p vc vs vw (ticksK p n.toNat k) kb F' ∧ KTouch F W w' ∧ ∀ g ∈ F', g ∈ F ∨ W.heap.size ≤ g := by
  obtain ⟨m, rfl⟩ : ∃ m : Nat, n = m := ⟨n.toNat, by omega⟩
  rw [Int.toNat_natCast]
  have HTK : Hid (∀ (j : Nat) W F', j < m → D.K w0 W p vc vs vw (ticksK p j k) kb F' → Calls Tryz.prog 12 #[.pointer (some ⟨kb, 0, none⟩)] W fun e w' => (∃ v, e = .returned v) ∧ ∃ F2, D.K w0 w' p vc vs vw (ticksK p (j + 1) k) kb F2 ∧ KTouch F' W w' ∧ ∀ g ∈ F2, g ∈ F' ∨ W.heap.size ≤ g) := fun j W F' hj h => by
    refine (D.tick hG h hp (ticksK_ok hp j hk) (by rw [ticksK_time]; omega)).mono ?_
    rintro e w' ⟨rfl, F2, a1, a2, a3⟩
    exact ⟨⟨_, rfl⟩, F2, a1, a2, a3⟩
  have HGE : Hid (∀ W F', D.K w0 W p vc vs vw k kb F' → True) := fun _ _ _ => trivial
  have hs1 : ((⟨#[103, 111]⟩ : ByteArray) == ⟨#[103, 111]⟩) = true := by decide
  clear hk ht hp hG HGE
  go_enter Tryz.func87, Tryz.ntmps87
  go_upto_region 2 with fail
  go_loopw [17] (fun i wr => ∃ (j : Nat) (F' : List Nat), j ≤ m ∧ i = .int .i64 j ∧ D.K w0 wr p vc vs vw (ticksK p j k) kb F' ∧ KTouch F W wr ∧ ∀ g ∈ F', g ∈ F ∨ W.heap.size ≤ g) (fun i _ => m - (intOf i).toNat)
  case atStart => exact ⟨0, F, Nat.zero_le _, rfl, hK, KTouch.refl _ _, fun g hg => Or.inl hg⟩
  case round =>
    clear hK
    obtain ⟨j, F', hj, rfl, hK, htk, hn⟩ := hrel
    by_cases hjm : j < m
    · have hji : (j : Int) < (m : Int) := by omega
      have q1 := HTK.out j wr F' hjm hK
      have HT : Hid (KTouch F W wr ∧ ∀ g ∈ F', g ∈ F ∨ W.heap.size ≤ g) := ⟨htk, hn⟩
      clear hK htk hn
      go_wp2_with (go_at_call 12; refine q1.mono ?_; rintro e w1 ⟨⟨v1, rfl⟩, F2, hK2, tk2, hn2⟩; clear q1)
      go_roundw
      case rel => exact ⟨j + 1, F2, by omega, by go_num, hK2, KTouch.chain HT.out.1 HT.out.2 tk2, KTouch.chainN HT.out.1 HT.out.2 hn2⟩
      case measure => simp [intOf]; omega
    · obtain rfl : j = m := by omega
      have hji : decide ((j : Int) < (j : Int)) = false := decide_eq_false (by omega)
      have hjn : decide (j < j) = false := decide_eq_false (by omega)
      go_wp2
      go_end0
      exact ⟨⟨_, rfl⟩, F', hK, htk, hn⟩
set_option maxRecDepth 100000 in
set_option maxHeartbeats 4000000 in
theorem lgapply_poke (r c n : Int) (b cap : Nat) (off : Nat) (W : World) (DP : KerPoke D) (hb : b < W.heap.size) (hbF : b ∉ F) (hK : D.K w0 W p vc vs vw k kb F) (hp : plchk p = 0) (hk : KOk p k) (hc0 : W.cell? ⟨b, off, none⟩ = some (.int .i64 r)) (hc1 : W.cell? ⟨b, off + 1, none⟩ = some (.int .i64 c)) (hc2 : W.cell? ⟨b, off + 2, none⟩ = some (.int .i64 n)) :
    Calls Tryz.prog 87 #[.pointer (some ⟨kb, 0, none⟩), .string ⟨#[112, 111, 107, 101]⟩, .slice (some ⟨b, off, none⟩) 3 cap] W fun e w' => (∃ v, e = .returned v) ∧ ∃ F', D.K w0 w' p vc vs vw (pokeK k r c n) kb F' ∧ KTouch F W w' ∧ ∀ g ∈ F', g ∈ F ∨ W.heap.size ≤ g := by
  have hq := fun W' (hb : Below W.heap.size W W') => DP r c n (D.frame hK (KTouch.of (M := []) hb) (by simp)) hk hp
  have HQ : Hid (∀ W', Below W.heap.size W W' → Calls Tryz.prog 129 #[.pointer (some ⟨kb, 0, none⟩), .int .i64 r, .int .i64 c, .int .i64 n] W' fun e w' => (∃ v, e = .returned v) ∧ ∃ F', D.K w0 w' p vc vs vw (pokeK k r c n) kb F' ∧ KTouch F W w' ∧ ∀ g ∈ F', g ∈ F ∨ W.heap.size ≤ g) := fun W' hb' => by
    refine (hq W' hb').mono ?_
    rintro e w' ⟨rfl, F', a1, a2, a3⟩
    refine ⟨⟨_, rfl⟩, F', a1, (KTouch.of hb').trans a2, fun g hg => ?_⟩
    rcases a3 g hg with e | e
    · exact Or.inl e
    · exact Or.inr (Nat.le_trans hb'.size e)
  have hs1 : ((⟨#[112, 111, 107, 101]⟩ : ByteArray) == ⟨#[103, 111]⟩) = false := by decide
  have hs2 : ((⟨#[112, 111, 107, 101]⟩ : ByteArray) == ⟨#[112, 111, 107, 101]⟩) = true := by decide
  clear hK hp hk hq
  go_enter Tryz.func87, Tryz.ntmps87
  go_upto_region 6 with fail
  have HS : Hid (∀ W', KTouch F W W' → W'.cell? ⟨b, off, none⟩ = some (.int .i64 r) ∧ W'.cell? ⟨b, off + 1, none⟩ = some (.int .i64 c) ∧ W'.cell? ⟨b, off + 2, none⟩ = some (.int .i64 n)) := fun W' h => by
    have e := fun o => World.cell?_of_block (w := W) (w' := W') (a := ⟨b, o, none⟩) (h.block b hb hbF)
    exact ⟨(e _).trans hc0, (e _).trans hc1, (e _).trans hc2⟩
  refine wp_region_held_drew (S := fun W' => W'.cell? ⟨b, off, none⟩ = some (.int .i64 r) ∧ W'.cell? ⟨b, off + 1, none⟩ = some (.int .i64 c) ∧ W'.cell? ⟨b, off + 2, none⟩ = some (.int .i64 n)) (by kernel_rfl) (HS.out _ (KTouch.of (Below.refl _ _).drew)) (fun hHeld => ?_)
  simp only [List.size_toArray, List.length_cons, List.length_nil, Nat.reduceAdd, Array.replicate_succ, Array.replicate_zero, List.push_toArray, List.nil_append, List.cons_append]
  refine wpAnyH_take (i := 0) (v := ?_) rfl (by decide +kernel) (by decide +kernel) (by decide +kernel) (fun _ _ _ h => h) (Or.inl ⟨by rfl, ?_⟩) (by assumption) ?_
  rotate_left
  · intro W hSw
    try dsimp only at hSw
    obtain ⟨hS1, hS2, hS3⟩ := hSw
    go_simp
    try with_reducible rfl
  simp only [Act.put, List.setIfInBounds_toArray, List.set_cons_zero]
  refine wpAnyH_take (i := 1) (v := ?_) rfl (by decide +kernel) (by decide +kernel) (by decide +kernel) (fun _ _ _ h => h) (Or.inl ⟨by rfl, ?_⟩) (by assumption) ?_
  rotate_left
  · intro W hSw
    try dsimp only at hSw
    obtain ⟨hS1, hS2, hS3⟩ := hSw
    go_simp
    try with_reducible rfl
  simp only [Act.put, List.setIfInBounds_toArray, List.set_cons_zero, List.set_cons_succ]
  refine wpAnyH_take (i := 2) (v := ?_) rfl (by decide +kernel) (by decide +kernel) (by decide +kernel) (fun _ _ _ h => h) (Or.inl ⟨by rfl, ?_⟩) (by assumption) ?_
  rotate_left
  · intro W hSw
    try dsimp only at hSw
    obtain ⟨hS1, hS2, hS3⟩ := hSw
    go_simp
    try with_reducible rfl
  simp only [Act.put, List.setIfInBounds_toArray, List.set_cons_zero, List.set_cons_succ]
  refine wpAnyH_take (i := 3) (v := ?_) rfl (by decide +kernel) (by decide +kernel) (by decide +kernel) (fun _ _ _ h => h) (Or.inl ⟨by rfl, ?_⟩) (by assumption) ?_
  rotate_left
  · intro W hSw
    try dsimp only at hSw
    obtain ⟨hS1, hS2, hS3⟩ := hSw
    go_simp
    try with_reducible rfl
  simp only [Act.put, List.setIfInBounds_toArray, List.set_cons_zero, List.set_cons_succ]
  refine wpAnyH_take (i := 4) (v := ?_) rfl (by decide +kernel) (by decide +kernel) (by decide +kernel) (fun _ _ _ h => h) (Or.inl ⟨by rfl, ?_⟩) (by assumption) ?_
  rotate_left
  · intro W hSw
    try dsimp only at hSw
    obtain ⟨hS1, hS2, hS3⟩ := hSw
    go_simp
    try with_reducible rfl
  simp only [Act.put, List.setIfInBounds_toArray, List.set_cons_zero, List.set_cons_succ]
  refine wpAnyH_take (i := 5) (v := ?_) rfl (by decide +kernel) (by decide +kernel) (by decide +kernel) (fun _ _ _ h => h) (Or.inl ⟨by rfl, ?_⟩) (by assumption) ?_
  rotate_left
  · intro W hSw
    try dsimp only at hSw
    obtain ⟨hS1, hS2, hS3⟩ := hSw
    go_simp
    try with_reducible rfl
  simp only [Act.put, List.setIfInBounds_toArray, List.set_cons_zero, List.set_cons_succ]
  refine wpAnyH_take (i := 6) (v := ?_) rfl (by decide +kernel) (by decide +kernel) (by decide +kernel) (fun _ _ _ h => h) (Or.inl ⟨by rfl, ?_⟩) (by assumption) ?_
  rotate_left
  · intro W hSw
    try dsimp only at hSw
    obtain ⟨hS1, hS2, hS3⟩ := hSw
    go_simp
    try with_reducible rfl
  simp only [Act.put, List.setIfInBounds_toArray, List.set_cons_zero, List.set_cons_succ]
  refine wpAnyH_take (i := 7) (v := ?_) rfl (by decide +kernel) (by decide +kernel) (by decide +kernel) (fun _ _ _ h => h) (Or.inl ⟨by rfl, ?_⟩) (by assumption) ?_
  rotate_left
  · intro W hSw
    try dsimp only at hSw
    obtain ⟨hS1, hS2, hS3⟩ := hSw
    go_simp
    try with_reducible rfl
  simp only [Act.put, List.setIfInBounds_toArray, List.set_cons_zero, List.set_cons_succ]
  refine wpAnyH_take (i := 8) (v := ?_) rfl (by decide +kernel) (by decide +kernel) (by decide +kernel) (fun _ _ _ h => h) (Or.inl ⟨by rfl, ?_⟩) (by assumption) ?_
  rotate_left
  · intro W hSw
    try dsimp only at hSw
    obtain ⟨hS1, hS2, hS3⟩ := hSw
    go_simp
    try with_reducible rfl
  simp only [Act.put, List.setIfInBounds_toArray, List.set_cons_zero, List.set_cons_succ]
  refine wpAnyH_take (i := 9) (v := ?_) rfl (by decide +kernel) (by decide +kernel) (by decide +kernel) (fun _ _ _ h => h) (Or.inl ⟨by rfl, ?_⟩) (by assumption) ?_
  rotate_left
  · intro W hSw
    try dsimp only at hSw
    obtain ⟨hS1, hS2, hS3⟩ := hSw
    go_simp
    try with_reducible rfl
  simp only [Act.put, List.setIfInBounds_toArray, List.set_cons_zero, List.set_cons_succ]
  have bD : Below W.heap.size W W.drew := (Below.refl _ _).drew
  generalize W.drew = wD at bD hHeld ⊢
  refine wpAnyH_ready (rs := [10]) (by decide +kernel) (by simp) ?_
  refine AllReadyH.cons (o := _) rfl (fun K hK => ?_) AllReadyH.nil
  go_simp
  go_at_call 129
  refine (HQ.out _ bD).mono ?_
  rintro e w1 ⟨⟨v1, rfl⟩, F', a1, a2, a3⟩
  go_wp2_with fail
  refine hK.out _ _ (HS.out _ a2) (fun hHeld => ?_)
  clear hK K
  simp only [List.setIfInBounds_toArray, List.set_cons_zero, List.set_cons_succ]
  refine wpAnyH_done (by decide +kernel) ?_ _
  go_wp2_with fail
  go_end0
  exact ⟨⟨_, rfl⟩, F', a1, a2, a3⟩
set_option maxRecDepth 100000 in
set_option maxHeartbeats 4000000 in
theorem lgapply_else (s : ByteArray) (ao : Option Addr) (n cap : Nat) (W : World) (h1 : s.toList = [103, 111] → n ≠ 1) (h2 : s.toList = [112, 111, 107, 101] → n ≠ 3) :
    Calls Tryz.prog 87 #[.pointer (some ⟨kb, 0, none⟩), .string s, .slice ao n cap] W fun e w' => (∃ v, e = .returned v) ∧ w' = W := by
  by_cases hs1 : s.toList = [103, 111]
  · have hn := h1 hs1
    have hn1 : ((n : Int) == 1) = false := by simp; omega
    have hn2 : (n == 1) = false := by simpa using hn
    have hs2 : ¬ s.toList = [112, 111, 107, 101] := by rw [hs1]; decide
    have hb1 : (s.toList == [103, 111]) = true := by simpa using hs1
    have hb2 : (s.toList == [112, 111, 107, 101]) = false := by simpa using hs2
    clear h1 h2
    go_enter Tryz.func87, Tryz.ntmps87
    go_wp2
    go_end0
    exact ⟨⟨_, rfl⟩, rfl⟩
  · have hb1 : (s.toList == [103, 111]) = false := by simpa using hs1
    by_cases hs2 : s.toList = [112, 111, 107, 101]
    · have hn := h2 hs2
      have hn1 : ((n : Int) == 3) = false := by simp; omega
      have hn2 : (n == 3) = false := by simpa using hn
      have hb2 : (s.toList == [112, 111, 107, 101]) = true := by simpa using hs2
      clear h1 h2
      go_enter Tryz.func87, Tryz.ntmps87
      go_wp2
      go_end0
      exact ⟨⟨_, rfl⟩, rfl⟩
    · have hb2 : (s.toList == [112, 111, 107, 101]) = false := by simpa using hs2
      clear h1 h2
      go_enter Tryz.func87, Tryz.ntmps87
      go_wp2
      go_end0
      exact ⟨⟨_, rfl⟩, rfl⟩
/-- What a record says, of any word and numbers. -/
theorem lgapply_any (wd : List UInt8) (ns : List Int) (v : Value) (W : World) (DP : KerPoke D) (hG : G w0) (hK : D.K w0 W p vc vs vw k kb F) (hp : plchk p = 0) (hk : KOk p k) (ht : k.time + 999 < 100000000) (hv : Nums W F v ns) (hn : ∀ n ∈ ns, 0 ≤ n ∧ n ≤ 999) :
    Calls Tryz.prog 87 #[.pointer (some ⟨kb, 0, none⟩), .string ⟨wd.toArray⟩, v] W fun e w' => (∃ v, e = .returned v) ∧ ∃ F', D.K w0 w' p vc vs vw (doW p k wd ns) kb F' ∧ KTouch F W w' ∧ ∀ g ∈ F', g ∈ F ∨ W.heap.size ≤ g := by
  obtain ⟨ao, cap, hvv⟩ : ∃ ao cap, v = .slice ao ns.length cap := by
    rcases hv with ⟨rfl, rfl⟩ | ⟨b, cap, rfl, _⟩
    · exact ⟨_, _, rfl⟩
    · exact ⟨_, _, rfl⟩
  unfold doW
  by_cases h1 : wd = goW ∧ ns.length = 1
  · rw [if_pos h1]
    obtain ⟨rfl, hl⟩ := h1
    obtain ⟨n, rfl⟩ : ∃ n, ns = [n] := by
      match ns, hl with
      | [n], _ => exact ⟨n, rfl⟩
    rcases hv with ⟨_, he⟩ | ⟨b, cap, rfl, hb, hbF, hc⟩
    · cases he
    · have hn0 := hn n (by simp)
      exact lgapply_go n b cap 0 W hG hK hp hk ht (hc 0 n rfl) hn0.1 hn0.2
  · rw [if_neg h1]
    by_cases h2 : wd = pokeW ∧ ns.length = 3
    · rw [if_pos h2]
      obtain ⟨rfl, hl⟩ := h2
      obtain ⟨r, c, n, rfl⟩ : ∃ r c n, ns = [r, c, n] := by
        match ns, hl with
        | [r, c, n], _ => exact ⟨r, c, n, rfl⟩
      rcases hv with ⟨_, he⟩ | ⟨b, cap, rfl, hb, hbF, hc⟩
      · cases he
      · exact lgapply_poke r c n b cap 0 W DP hb hbF hK hp hk (hc 0 r rfl) (hc 1 c rfl) (hc 2 n rfl)
    · rw [if_neg h2, hvv]
      refine (lgapply_else ⟨wd.toArray⟩ ao ns.length cap W (fun h => ?_) (fun h => ?_)).mono ?_
      · exact fun hl => h1 ⟨by rw [Lib.toList_data] at h; exact h, hl⟩
      · exact fun hl => h2 ⟨by rw [Lib.toList_data] at h; exact h, hl⟩
      · rintro e w' ⟨hr, hw⟩
        subst hw
        exact ⟨hr, F, hK, KTouch.refl _ _, fun g hg => Or.inl hg⟩
end
end Go.Proofs.YtajfgmlockjmhaiGreatDoor
namespace Go.Proofs.YtajfgmlockjmhaiGreatDoor
open Go.RowKit Go.Shelf
attribute [local go_sem] Oper.semAt_some

set_option maxRecDepth 1000000 in
set_option maxHeartbeats 4000000 in
theorem read7_open (s : ByteArray) (w : World) (hs : ∀ u, s.data.toList ≠ u ++ [10]) (hl : s.size ≤ 1099511627776) :
    Calls Tryz.prog 75 #[.string s, .int .i64 7] w fun e w' => e = .returned (.tuple #[.string ⟨#[]⟩, .slice none 0 0, .bool false]) ∧ Below w.heap.size w w' := by
  have hsu := fun w => suffix_no s w hs hl
  clear hs
  refine (callsIn_wide (n := 4)).1 ?_
  refine callsIn_of_wp_marks Tryz.func75 rfl trivial ?_ rfl
  simp only [Tryz.ntmps75, List.size_toArray, List.length_cons, List.length_nil, Nat.reduceAdd, Nat.reduceSub, Array.replicate_succ, Array.replicate_zero, List.push_toArray, List.append_toArray, List.nil_append, List.cons_append]
  gi_wp2_with (refine ⟨trivial, ?_⟩; gi_at_call 111; refine (callsIn_wide.2 (hsu _)).mono ?_; rintro e w' ⟨⟨t, rfl⟩, hw'⟩; subst hw')
  refine ⟨.tuple #[.string ⟨#[]⟩, .slice none 0 0, .bool false], by simp [results, Tryz.results75, go_sem], rfl, ?_⟩
  exact ((((Below.refl _ w).alloc (Nat.le_refl _) _).alloc (by simp) _).alloc (by simp; omega) _).alloc (by simp; omega) _

set_option maxRecDepth 1000000 in
set_option maxHeartbeats 4000000 in
theorem read7_word (s : ByteArray) (u : List UInt8) (w : World) (hs : s.data.toList = u ++ [10]) (hu : (32 : UInt8) ∉ u) (hl : s.size ≤ 1099511627776) :
    Calls Tryz.prog 75 #[.string s, .int .i64 7] w fun e w' => e = .returned (.tuple #[.string ⟨u.toArray⟩, .slice none 0 0, .bool true]) ∧ Below w.heap.size w w' := by
  have hsu := fun w => suffix_yes s u w hs hl
  have hcu := fun w => cut1_no ⟨u.toArray⟩ w (by simpa using hu)
  clear hs hu
  refine (callsIn_wide (n := 4)).1 ?_
  refine callsIn_of_wp_marks Tryz.func75 rfl trivial ?_ rfl
  simp only [Tryz.ntmps75, List.size_toArray, List.length_cons, List.length_nil, Nat.reduceAdd, Nat.reduceSub, Array.replicate_succ, Array.replicate_zero, List.push_toArray, List.append_toArray, List.nil_append, List.cons_append]
  gi_wp2_with (first | (refine ⟨trivial, ?_⟩; gi_at_call 111; refine (callsIn_wide.2 (hsu _)).mono ?_; rintro e w' ⟨rfl, hw'⟩; subst hw') | (refine ⟨trivial, ?_⟩; gi_at_call 112; refine (callsIn_wide.2 (hcu _)).mono ?_; rintro e w2 ⟨rfl, b2⟩; obtain ⟨x1, x2, x3, x4, bw, hsz⟩ := four_boxes b2; have c1 := x2.cell; have c2 := x3.cell; have c3 := x4.cell; have f1 := x2.frozen; have f2 := x3.frozen; have f3 := x4.frozen; clear b2 x1))
  refine ⟨.tuple #[.string ⟨u.toArray⟩, .slice none 0 0, .bool true], ?_, rfl, ?_⟩
  · simp [results, Tryz.results75, go_sem, c1, c2, c3]
  · exact ((bw.setCell (p := ⟨w.heap.size + 1, 0, none⟩) (by simp) _).setCell (p := ⟨w.heap.size + 1 + 1, 0, none⟩) (by simp; omega) _).setCell (p := ⟨w.heap.size + 1 + 1 + 1, 0, none⟩) (by simp; omega) _

set_option maxRecDepth 1000000 in
set_option maxHeartbeats 4000000 in
theorem splitSeq7_any (s : ByteArray) (w : World) :
    Calls Tryz.prog 113 #[.string s, .string ⟨#[32]⟩] w fun e w' => e = .returned (.func (.func 165) #[] #[.pointer (some ⟨w.heap.size + 1, 0, none⟩), .pointer (some ⟨w.heap.size, 0, none⟩), .pointer (some ⟨w.heap.size + 1 + 1, 0, none⟩)]) ∧
      w' = ((w.alloc (.cells #[.string s] 9)).alloc (.cells #[.string ⟨#[32]⟩] 9)).alloc (.cells #[.int .i64 0] 3) := by
  go_enter Tryz.func113, Tryz.ntmps113
  go_wp2
  go_ret
  exact ⟨rfl, rfl⟩

set_option maxRecDepth 1000000 in
set_option maxHeartbeats 4000000 in
theorem read7_nums (s : ByteArray) (a v : List UInt8) (w : World) (ht : Tabs2 w) (hs : s.data.toList = (a ++ 32 :: v) ++ [10]) (ha : (32 : UInt8) ∉ a) (hl : s.size ≤ 1099511627776) :
    Calls Tryz.prog 75 #[.string s, .int .i64 7] w fun e w' =>
      ((∃ ns vv, nums7 (cutB 32 v) = some ns ∧ e = .returned (.tuple #[.string ⟨a.toArray⟩, vv, .bool true]) ∧ w'.ownsRow w.heap.size 3 1 vv ns.length (ns.map (Value.int .i64))) ∨
       (nums7 (cutB 32 v) = none ∧ e = .returned (.tuple #[.string ⟨#[]⟩, .slice none 0 0, .bool false]))) ∧ Below w.heap.size w w' := by
  obtain ⟨ii, hi, hz0, hz1, hz2⟩ := info_parts infoIntC
  have hsz : s.size = a.length + v.length + 2 := by
    have : s.data.toList.length = s.size := by simp
    rw [← this, hs]; simp; omega
  have hsu := fun w => suffix_yes s (a ++ 32 :: v) w hs hl
  have hcu := fun w => cut1_yes ⟨(a ++ 32 :: v).toArray⟩ a v w (by simp) ha (by rw [ba_size']; simp; omega)
  clear hs ha
  refine (callsIn_wide (n := 4)).1 ?_
  refine callsIn_of_wp_marks Tryz.func75 rfl trivial ?_ rfl
  simp only [Tryz.ntmps75, List.size_toArray, List.length_cons, List.length_nil, Nat.reduceAdd, Nat.reduceSub, Array.replicate_succ, Array.replicate_zero, List.push_toArray, List.append_toArray, List.nil_append, List.cons_append]
  gi_wp2_with (first | (refine ⟨trivial, ?_⟩; gi_at_call 111; refine (callsIn_wide.2 (hsu _)).mono ?_; rintro e w' ⟨rfl, hw'⟩; subst hw') | (refine ⟨trivial, ?_⟩; gi_at_call 112; refine (callsIn_wide.2 (hcu _)).mono ?_; rintro e w2 ⟨rfl, b2⟩; obtain ⟨x1, x2, x3, x4, bw, hsz2⟩ := four_boxes b2; clear b2) | (refine ⟨trivial, ?_⟩; gi_at_call 113; refine (callsIn_wide.2 (splitSeq7_any _ _)).mono ?_; rintro e w3 ⟨rfl, hw3⟩; subst hw3))
  obtain ⟨W0, hW0⟩ : ∃ W0, (((w2.alloc (.cells #[.slice none 0 0] 58)).alloc (.cells #[.string ⟨v.toArray⟩] 9)).alloc (.cells #[.string ⟨#[32]⟩] 9)).alloc (.cells #[.int .i64 0] 3) = W0 := ⟨_, rfl⟩
  have y0 : Boxed W0 w2.heap.size 58 (.slice none 0 0) ∧ Boxed W0 (w2.heap.size + 1) 9 (encS v) ∧ Boxed W0 (w2.heap.size + 1 + 1) 9 (.string ⟨#[32]⟩) ∧ Boxed W0 (w2.heap.size + 1 + 1 + 1) 3 (.int .i64 0) ∧ W0.heap.size = w2.heap.size + 4 ∧ Below w2.heap.size w2 W0 := by
    have h0 := Boxed.new w2 58 (.slice none 0 0)
    have h1 := Boxed.new (w2.alloc (.cells #[.slice none 0 0] 58)) 9 (encS v)
    have h2 := Boxed.new ((w2.alloc (.cells #[.slice none 0 0] 58)).alloc (.cells #[encS v] 9)) 9 (.string ⟨#[32]⟩)
    have h3 := Boxed.new (((w2.alloc (.cells #[.slice none 0 0] 58)).alloc (.cells #[encS v] 9)).alloc (.cells #[.string ⟨#[32]⟩] 9)) 3 (.int .i64 0)
    simp only [World.size_alloc] at h1 h2 h3
    rw [← hW0]
    exact ⟨((h0.alloc _).alloc _).alloc _, (h1.alloc _).alloc _, h2.alloc _, h3, by simp, ((((Below.refl _ w2).alloc (Nat.le_refl _) _).alloc (by simp) _).alloc (by simp; omega) _).alloc (by simp; omega) _⟩
  rw [hW0]
  obtain ⟨y1, y2, y3, y4, hWs, bW⟩ := y0
  have z1 : Boxed W0 w.heap.size 3 (.int .i64 7) := (bW.block _ x1.lt).trans x1
  have z2 : Boxed W0 (w.heap.size + 1) 9 (.string ⟨#[]⟩) := (bW.block _ x2.lt).trans x2
  have z3 : Boxed W0 (w.heap.size + 1 + 1) 58 (.slice none 0 0) := (bW.block _ x3.lt).trans x3
  have z4 : Boxed W0 (w.heap.size + 1 + 1 + 1) 4 (.bool false) := (bW.block _ x4.lt).trans x4
  have bw0 : Below w.heap.size w W0 := bw.trans (bW.mono (by omega))
  clear x1 x2 x3 x4 bW hW0 hsu hcu bw
  have hBi : Boxed W0 (w2.heap.size + 1 + 2) 3 (.int .i64 0) := y4
  refine wpIn_rangeState (P := Tryz.prog) 13 (Bi := w2.heap.size + 1) (m := 3) rfl (by omega) (gf := 165) (lb := #[.pointer (some ⟨w2.heap.size + 1 + 1, 0, none⟩), .pointer (some ⟨w2.heap.size + 1, 0, none⟩), .pointer (some ⟨w2.heap.size + 1 + 2, 0, none⟩)]) rfl trivial (enters_of Tryz.func165 (by kernel_rfl) rfl)
    (split_gives v (w2.heap.size + 1) W0 y2 y3 hBi (by omega)) (by omega) (by omega)
    (fun pre W => (∃ ns vv, nums7 pre = some ns ∧ Boxed W w2.heap.size 58 vv ∧ W.ownsRow (w2.heap.size + 4) 3 1 vv ns.length (ns.map (Value.int .i64))) ∧ ((Boxed W w.heap.size 3 (.int .i64 7) ∧ Boxed W (w.heap.size + 1) 9 (.string ⟨#[]⟩)) ∧ (Boxed W (w.heap.size + 1 + 1) 58 (.slice none 0 0) ∧ Boxed W (w.heap.size + 1 + 1 + 1) 4 (.bool false))) ∧ ((Below w.heap.size w W ∧ w.heap.size ≤ W.heap.size) ∧ w2.heap.size + 4 ≤ W.heap.size))
    (fun pre W => (∃ q p, pre = q ++ [p] ∧ numB7 p = none) ∧ (Boxed W (w.heap.size + 1) 9 (.string ⟨#[]⟩) ∧ (Boxed W (w.heap.size + 1 + 1) 58 (.slice none 0 0) ∧ Boxed W (w.heap.size + 1 + 1 + 1) 4 (.bool false))) ∧ (Below w.heap.size w W ∧ w.heap.size ≤ W.heap.size))
    ?hI ?hIx ?h0 ?assign ?body ?done ?stop
  case hI =>
    refine Steady.and (fun s W W' row hs hg hr => ?_) (Steady.and (Steady.and (Steady.and (steady_boxed _ _ (fun _ => _) (by omega)) (steady_boxed _ _ (fun _ => _) (by omega))) (Steady.and (steady_boxed _ _ (fun _ => _) (by omega)) (steady_boxed _ _ (fun _ => _) (by omega)))) (Steady.and (steady_below (by omega) (by omega)) (fun s W W' row hs hg hr => Nat.le_trans hs hg.size)))
    obtain ⟨ns, vv, h1, h2, h3⟩ := hs
    exact ⟨ns, vv, h1, steady_boxed (B := W0.heap.size) w2.heap.size 58 (fun (_ : Unit) => vv) (by omega) () W W' row h2 hg hr, own_steady h3 hg hr (by omega)⟩
  case hIx =>
    exact Steady.and (steady_pure _ _ _) (Steady.and (Steady.and (steady_boxed _ _ (fun _ => _) (by omega)) (Steady.and (steady_boxed _ _ (fun _ => _) (by omega)) (steady_boxed _ _ (fun _ => _) (by omega)))) (steady_below (by omega) (by omega)))
  case h0 => exact ⟨⟨[], _, rfl, y1, World.ownsRow_nil _ _ _ _⟩, ⟨⟨z1, z2⟩, z3, z4⟩, ⟨bw0, by omega⟩, by omega⟩
  case assign =>
    intro l x W K hK
    simp only [List.setIfInBounds_toArray, List.set_cons_zero, List.set_cons_succ] at hK
    gi_wp2
    exact hK
  case body =>
    rintro l pre x W ⟨⟨ns, vv, hns, hbv, hown⟩, ⟨⟨q1, q2⟩, q3, q4⟩, ⟨hb, hb'⟩, hsz3⟩ hlen
    simp only [List.setIfInBounds_toArray, List.set_cons_zero, List.set_cons_succ]
    have hnl : ns.length ≤ pre.length := Nat.le_of_eq (n7_len hns)
    have htW : Tabs2 W := ht.all hb
    have hc1 := q1.cell
    cases hx : numB7 x with
    | none =>
      have hnum : Calls Tryz.prog 114 #[encS x, .int .i64 7] W fun e w' => e = .returned (.tuple #[.int .i64 0, .bool false]) ∧ Below W.heap.size W w' := by
        have := number7_any ⟨x.toArray⟩ W htW
        simp only [hx, Option.getD_none, Option.isSome_none] at this
        exact this
      have HX : Hid (numB7 x = none) := hx
      clear hx htW
      gi_wp2_with (refine ⟨trivial, ?_⟩; gi_at_call 114; refine (CallsIn.inRound l (callsIn_wide.2 hnum)).mono ?_; rintro e W2 ⟨rfl, b2⟩; have e2 := (b2.block _ q2.lt).trans q2; have e3 := (b2.block _ q3.lt).trans q3; have e4 := (b2.block _ q4.lt).trans q4; have c2 := Boxed.cell e2; have c3 := Boxed.cell e3; have c4 := Boxed.cell e4; have f2 := Boxed.frozen e2; have f3 := Boxed.frozen e3; have f4 := Boxed.frozen e4; clear hnum)
      refine ⟨(keepsFrom_below b2).trans (((KeepsOthers.setCell _ _ _).trans ((KeepsOthers.setCell _ _ _).trans (KeepsOthers.setCell _ _ _))).from _), ⟨pre, x, rfl, HX.out⟩, ⟨?_, ?_, ?_⟩, ?_, ?_⟩
      · exact ((Boxed.set _ e2).other (by omega) _).other (by omega) _
      · exact ((Boxed.other e3 (by omega) _).set _).other (by omega) _
      · exact ((Boxed.other e4 (by omega) _).other (by omega) _).set _
      · exact (((hb.trans (b2.mono hb')).setCell (p := ⟨w.heap.size + 1, 0, none⟩) (by simp) _).setCell (p := ⟨w.heap.size + 1 + 1, 0, none⟩) (by simp; omega) _).setCell (p := ⟨w.heap.size + 1 + 1 + 1, 0, none⟩) (by simp; omega) _
      · simp only [World.setCell, Array.size_modify]; exact Nat.le_trans hb' b2.size
    | some k =>
      have hnum : Calls Tryz.prog 114 #[encS x, .int .i64 7] W fun e w' => e = .returned (.tuple #[.int .i64 k, .bool true]) ∧ Below W.heap.size W w' := by
        have := number7_any ⟨x.toArray⟩ W htW
        simp only [hx, Option.getD_some, Option.isSome_some] at this
        exact this
      have HX : Hid (nums7 (pre ++ [x]) = some (ns ++ [k])) := n7_snoc pre ns x k hns hx
      clear hx htW hns
      gi_wp2_with (first | (refine ⟨trivial, ?_⟩; gi_at_call 114; refine (CallsIn.inRound l (callsIn_wide.2 hnum)).mono ?_; rintro e W2 ⟨rfl, b2⟩; have g1 := (b2.block _ q1.lt).trans q1; have g2 := (b2.block _ q2.lt).trans q2; have g3 := (b2.block _ q3.lt).trans q3; have g4 := (b2.block _ q4.lt).trans q4; have gv := (b2.block _ hbv.lt).trans hbv; have hown2 := own_all hown b2; have cv := Boxed.cell gv; have fv := Boxed.frozen gv; have hs2 := b2.size; clear hnum hown) | (gi_at_builtin; refine wpListIn_append_own _ rfl _ _ 58 rfl (w2.heap.size + 4) 3 ii (.int .i64 0) 1 8 Tryz.underlying58 hi hz0 hz1 hz2 rfl (by decide) _ _ _ rfl (hown2.alloc _) ⟨W2.heap.size, 0, none⟩ 1 1 [.int .i64 k] rfl rfl (cell_one_new _ _ _) (by simp [Value.oneCell']) (by unfold maxLen; omega) (by omega) (by simp; omega) ?_; intro v' w1 hown' hgrow _; obtain ⟨g', cap', rfl⟩ := ownsRow_succ hown'; have hv1 := Boxed.kept (Boxed.alloc gv _) hgrow (Boxed.not_row gv (by decide) hown2); have cv1 := hv1.cell; have fv1 := hv1.frozen))
      obtain ⟨r1, r2, r3, r4, r5, r6⟩ := app_step b2 (show w2.heap.size < w2.heap.size + 4 by omega) hsz3 gv (by decide) hown2 hown' hgrow
      refine ⟨r1.from _, fun j hj0 hj1 => r2 j (by omega) (by omega), ⟨ns ++ [k], _, HX.out, r3, by simpa using r4⟩, ⟨⟨(r2 _ (by omega) (by omega)).trans q1, (r2 _ (by omega) (by omega)).trans q2⟩, (r2 _ (by omega) (by omega)).trans q3, (r2 _ (by omega) (by omega)).trans q4⟩, ⟨hb.trans (r5.mono (by omega)), by omega⟩, by omega⟩
  case done =>
    rintro D xs W hD rfl ⟨⟨ns, vv, hns, hbv, hown⟩, ⟨⟨q1, q2⟩, q3, q4⟩, ⟨hb, hb'⟩, hsz3⟩ hK
    obtain ⟨ao, nn, cap, rfl⟩ : ∃ ao nn cap, vv = .slice ao nn cap := by
      rcases hown.2 with ⟨h, _⟩ | ⟨g, cap, cur, h, _⟩
      · exact ⟨_, _, _, h⟩
      · exact ⟨_, _, _, h⟩
    have cv := hbv.cell
    have c2 := q2.cell
    have c3 := q3.cell
    have c4 := q4.cell
    have f2 := q2.frozen
    have f3 := q3.frozen
    have f4 := q4.frozen
    have HN : Hid (nums7 (cutB 32 v) = some ns) := hns
    clear hns
    gi_wp2
    gi_region
    gi_wp2
    obtain ⟨W4, hW4⟩ : ∃ W4, (((W.setCell ⟨w.heap.size + 1, 0, none⟩ (.string ⟨a.toArray⟩)).setCell ⟨w.heap.size + 1 + 1, 0, none⟩ (.slice ao nn cap)).setCell ⟨w.heap.size + 1 + 1 + 1, 0, none⟩ (.bool true)).drew = W4 := ⟨_, rfl⟩
    rw [hW4]
    have p2 : Boxed W4 (w.heap.size + 1) 9 (.string ⟨a.toArray⟩) := by rw [← hW4]; exact ((Boxed.set _ q2).other (by omega) _).other (by omega) _
    have p3 : Boxed W4 (w.heap.size + 1 + 1) 58 (.slice ao nn cap) := by rw [← hW4]; exact ((Boxed.other q3 (by omega) _).set _).other (by omega) _
    have p4 : Boxed W4 (w.heap.size + 1 + 1 + 1) 4 (.bool true) := by rw [← hW4]; exact ((Boxed.other q4 (by omega) _).other (by omega) _).set _
    have pK : W4.heap[D]? = some (.deferred (some [])) := by rw [← hW4]; exact ((KeepsOthers.setCell _ _ _).trans ((KeepsOthers.setCell _ _ _).trans (KeepsOthers.setCell _ _ _))).same D _ hK rfl
    have pb : Below w.heap.size w W4 := by rw [← hW4]; exact (((hb.setCell (p := ⟨w.heap.size + 1, 0, none⟩) (by simp) _).setCell (p := ⟨w.heap.size + 1 + 1, 0, none⟩) (by simp; omega) _).setCell (p := ⟨w.heap.size + 1 + 1 + 1, 0, none⟩) (by simp; omega) _).drew
    have po : W4.ownsRow (w2.heap.size + 4) 3 1 (.slice ao nn cap) ns.length (ns.map (Value.int .i64)) := by
      rw [← hW4]
      exact ((ownsRow_setCell_below hown (by simp; omega) _ |> fun h => ownsRow_setCell_below h (by simp; omega) _) |> fun h => ownsRow_setCell_below h (by simp; omega) _)
    clear hW4 hown hK q1 q2 q3 q4 hb c2 c3 c4 f2 f3 f4 cv hbv
    have u2 := Boxed.kept p2 (grownBy_putObj' W4 D (.deferred none)) (fun e => by cases e; omega)
    have u3 := Boxed.kept p3 (grownBy_putObj' W4 D (.deferred none)) (fun e => by cases e; omega)
    have u4 := Boxed.kept p4 (grownBy_putObj' W4 D (.deferred none)) (fun e => by cases e; omega)
    have d2 := u2.cell
    have d3 := u3.cell
    have d4 := u4.cell
    refine ⟨by simp, .inl ⟨_, _, rfl, run_takeDeferred pK, ?_⟩⟩
    refine ⟨.tuple #[.string ⟨a.toArray⟩, .slice ao nn cap, .bool true], ?_, Or.inl ⟨ns, _, HN.out, rfl, Joins.ownsRow_le (ownsRow_putObj po _ pK rfl) (by omega)⟩, ?_⟩
    · simp [results, Tryz.results75, go_sem, d2, d3, d4]
    · exact pb.trans (belowK_b (w := w) (Nat.le_refl _) W4 D _ _ (by omega) pK rfl rfl)
  case stop =>
    rintro D pre W hD hpre ⟨⟨q, p, rfl, hp⟩, ⟨q2, q3, q4⟩, hb, hb'⟩ hK
    have c2 := q2.cell
    have c3 := q3.cell
    have c4 := q4.cell
    have HN : Hid (nums7 (cutB 32 v) = none) := by
      obtain ⟨r, hr⟩ := hpre
      show _ = _
      rw [← hr, List.append_assoc]
      exact n7_bad hp
    clear hp hpre
    gi_wp2
    have u2 := Boxed.kept q2 (grownBy_putObj' W D (.deferred none)) (fun e => by cases e; omega)
    have u3 := Boxed.kept q3 (grownBy_putObj' W D (.deferred none)) (fun e => by cases e; omega)
    have u4 := Boxed.kept q4 (grownBy_putObj' W D (.deferred none)) (fun e => by cases e; omega)
    have d2 := u2.cell
    have d3 := u3.cell
    have d4 := u4.cell
    refine ⟨by simp, .inl ⟨_, _, rfl, run_takeDeferred hK, ?_⟩⟩
    refine ⟨.tuple #[.string ⟨#[]⟩, .slice none 0 0, .bool false], ?_, Or.inr ⟨HN.out, rfl⟩, ?_⟩
    · simp [results, Tryz.results75, go_sem, d2, d3, d4]
    · exact hb.trans (belowK_b (w := w) (Nat.le_refl _) W D _ _ (by omega) hK rfl rfl)

theorem read7_any (s : ByteArray) (w : World) (ht : Tabs2 w) (hl : s.size ≤ 1099511627776) :
    Calls Tryz.prog 75 #[.string s, .int .i64 7] w fun e w' =>
      ((∃ p ns vv, read7B s.data.toList = some (p, ns) ∧ e = .returned (.tuple #[.string ⟨p.toArray⟩, vv, .bool true]) ∧ w'.ownsRow w.heap.size 3 1 vv ns.length (ns.map (Value.int .i64))) ∨
       (read7B s.data.toList = none ∧ e = .returned (.tuple #[.string ⟨#[]⟩, .slice none 0 0, .bool false]))) ∧ Below w.heap.size w w' := by
  by_cases h : ∃ u, s.data.toList = u ++ [10]
  · obtain ⟨u, hu⟩ := h
    rcases idx_cases 32 u with ⟨hno, _⟩ | ⟨a, v, hav, hna, _⟩
    · refine (read7_word s u w hu hno hl).mono ?_
      rintro e w' ⟨rfl, hb⟩
      exact ⟨Or.inl ⟨u, [], _, by rw [hu, read7B_snoc, wnL_no hno], rfl, World.ownsRow_nil _ _ _ _⟩, hb⟩
    · subst hav
      refine (read7_nums s a v w ht hu hna hl).mono ?_
      rintro e w' ⟨⟨ns, vv, h1, rfl, h3⟩ | ⟨h1, rfl⟩, hb⟩
      · exact ⟨Or.inl ⟨a, ns, vv, by rw [hu, read7B_snoc, wnL_at hna, h1]; rfl, rfl, h3⟩, hb⟩
      · exact ⟨Or.inr ⟨by rw [hu, read7B_snoc, wnL_at hna, h1]; rfl, rfl⟩, hb⟩
  · have h' : ∀ u, s.data.toList ≠ u ++ [10] := fun u e => h ⟨u, e⟩
    refine (read7_open s w h' hl).mono ?_
    rintro e w' ⟨rfl, hb⟩
    exact ⟨Or.inr ⟨read7B_none h', rfl⟩, hb⟩
end Go.Proofs.YtajfgmlockjmhaiGreatDoor
