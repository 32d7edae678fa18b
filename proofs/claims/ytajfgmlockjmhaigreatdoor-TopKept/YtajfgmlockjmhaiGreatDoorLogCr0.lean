/-
  Package log: Crash where nothing was written, and in all.
-/
import Derived.Test.YtajfgmlockjmhaiGreatDoorLogCr
namespace Go.Proofs.YtajfgmlockjmhaiGreatDoor
open Go.RowKit
section
variable {G : World → Prop} {D : KerC G} {w0 w w' : World} {p : PD} {d d' : LgD} {k : KD} {lb : Nat} {x : LW}

set_option maxRecDepth 100000 in
set_option maxHeartbeats 8000000 in
theorem lgcrash_none (keep : Int) (W : World) (DP : KerPoke D) (hT : ∀ w, G w → Tabs2 w) (hG : G w0) (hp : plchk p = 0) (h : GL D w0 W p d (d.k p) lb x) (hok : LOk p d) (hrv : x.rv = .slice none 0 0) (hz : d.bytes = 0) :
    Calls Tryz.prog 22 #[.pointer (some ⟨lb, 0, none⟩), .int .i64 keep] W fun e w' => (∃ v, e = .returned v) ∧ ∃ x', GL D w0 w' p (crashL d keep) ((crashL d keep).k p) lb x' ∧ KTouch (x.F lb) W w' ∧ ∀ g ∈ x'.F lb, g ∈ x.F lb ∨ W.heap.size ≤ g := by
  obtain ⟨hm, hsb⟩ := high_int hok keep
  obtain ⟨hl1, hl2, hl3, hl4⟩ := h.tx.crash keep
  have hck := crash_kern (p := p) h.tx keep
  have hsm := h.tx.small hok
  have hbl := h.tx.len
  have hmb : d.high keep = 0 := by omega
  have hs0 : d.safe = 0 := by omega
  have hb0 : x.bs = [] := List.eq_nil_of_length_eq_zero (by omega)
  obtain ⟨_, _, _, _, _, c5, c6, c7, c8⟩ := h.blk.cs
  rw [hrv] at c5
  rw [hs0] at c6
  have hfr := h.blk.free
  have HS : Hid (∀ W2, GL D w0 W2 p d (d.k p) lb x → W2.cell? ⟨lb, 5, none⟩ = some (.slice none 0 0) ∧ W2.cell? ⟨lb, 6, none⟩ = some (.int .i64 0) ∧ (convert 111 9 (.slice none 0 0)).run Tryz.prog W2 = .ok (.string ⟨#[]⟩) W2) := fun W2 h2 => by
    obtain ⟨_, _, _, _, _, y5, y6, _, _⟩ := h2.blk.cs
    rw [hrv] at y5
    rw [hs0] at y6
    exact ⟨y5, y6, run_convert_bytes_nil (P := Tryz.prog) W2 111 5 (by kernel_rfl) (by kernel_rfl) 0 0 9 (by kernel_rfl)⟩
  have H : Hid (GL D w0 W p d (d.k p) lb x) := h
  clear h
  rw [hmb, hb0] at hl1
  rw [hb0] at hl2 hck
  rw [hmb] at hl3
  have hn0 : (crashL d keep).safe = 0 := by omega
  rw [hn0] at hl1 hl2 hck
  rw [List.take_nil] at hl1 hl2 hck
  have HN : Hid ((crashL d keep).safe = 0) := hn0
  clear hl4 hn0 hl3 hm hsb
  go_enter Tryz.func22, Tryz.ntmps22
  go_upto_region 0 with fail
  go_quiet (fail)
  have H1 : Hid (GL D w0 (W.drewN nq) p d (d.k p) lb x ∧ Below W.heap.size W (W.drewN nq)) := ⟨H.out.all (below_dN (Below.refl _ _) nq), below_dN (Below.refl _ _) nq⟩
  clear c5 c6 c7 c8
  generalize W.drewN nq = W1 at H1 ⊢
  go_upto_region 1 with fail
  refine wp_region_held_drew (S := fun W2 => GL D w0 W2 p d (d.k p) lb x) (by kernel_rfl) (H1.out.1.all (Below.refl _ _).drew) (fun hHeld => ?_)
  simp only [List.size_toArray, List.length_cons, List.length_nil, Nat.reduceAdd, Array.replicate_succ, Array.replicate_zero, List.push_toArray, List.nil_append, List.cons_append]
  refine wpAnyH_take (i := 0) (v := ?_) rfl (by decide +kernel) (by decide +kernel) (by decide +kernel) (fun _ _ _ h => h) (Or.inl ⟨by rfl, ?_⟩) (by assumption) ?_
  rotate_left
  · intro W2 hSw
    obtain ⟨y5, y6, y7⟩ := HS.out W2 hSw
    clear hSw
    try dsimp only at y5 y6
    go_simp
    try with_reducible rfl
  simp only [Act.put, List.setIfInBounds_toArray, List.set_cons_zero]
  refine wpAnyH_take (i := 1) (v := ?_) rfl (by decide +kernel) (by decide +kernel) (by decide +kernel) (fun _ _ _ h => h) (Or.inl ⟨by rfl, ?_⟩) (by assumption) ?_
  rotate_left
  · intro W2 hSw
    obtain ⟨y5, y6, y7⟩ := HS.out W2 hSw
    clear hSw
    try dsimp only at y5 y6
    go_simp
    try with_reducible rfl
  simp only [Act.put, List.setIfInBounds_toArray, List.set_cons_zero, List.set_cons_succ]
  refine wpAnyH_take (i := 2) (v := ?_) rfl (by decide +kernel) (by decide +kernel) (by decide +kernel) (fun _ _ _ h => h) (Or.inl ⟨by rfl, ?_⟩) (by assumption) ?_
  rotate_left
  · intro W2 hSw
    obtain ⟨y5, y6, y7⟩ := HS.out W2 hSw
    clear hSw
    try dsimp only at y5 y6
    go_simp
    try with_reducible rfl
  simp only [Act.put, List.setIfInBounds_toArray, List.set_cons_zero, List.set_cons_succ]
  refine wpAnyH_take (i := 3) (v := ?_) rfl (by decide +kernel) (by decide +kernel) (by decide +kernel) (fun _ _ _ h => h) (Or.inl ⟨by rfl, ?_⟩) (by assumption) ?_
  rotate_left
  · intro W2 hSw
    obtain ⟨y5, y6, y7⟩ := HS.out W2 hSw
    clear hSw
    try dsimp only at y5 y6
    go_simp
    try with_reducible rfl
  simp only [Act.put, List.setIfInBounds_toArray, List.set_cons_zero, List.set_cons_succ]
  refine wpAnyH_take (i := 4) (v := ?_) rfl (by decide +kernel) (by decide +kernel) (by decide +kernel) (fun _ _ _ h => h) (Or.inl ⟨by rfl, ?_⟩) (by assumption) ?_
  rotate_left
  · intro W2 hSw
    obtain ⟨y5, y6, y7⟩ := HS.out W2 hSw
    clear hSw
    try dsimp only at y5 y6
    go_simp
    try with_reducible rfl
  simp only [Act.put, List.setIfInBounds_toArray, List.set_cons_zero, List.set_cons_succ]
  refine wpAnyH_take (i := 5) (v := ?_) rfl (by decide +kernel) (by decide +kernel) (by decide +kernel) (fun _ _ _ h => h) (Or.inl ⟨by rfl, ?_⟩) (by assumption) ?_
  rotate_left
  · intro W2 hSw
    obtain ⟨y5, y6, y7⟩ := HS.out W2 hSw
    clear hSw
    try dsimp only at y5 y6
    go_simp
    try with_reducible rfl
  simp only [Act.put, List.setIfInBounds_toArray, List.set_cons_zero, List.set_cons_succ]
  refine wpAnyH_take (i := 6) (v := ?_) rfl (by decide +kernel) (by decide +kernel) (by decide +kernel) (fun _ _ _ h => h) (Or.inl ⟨by rfl, ?_⟩) (by assumption) ?_
  rotate_left
  · intro W2 hSw
    obtain ⟨y5, y6, y7⟩ := HS.out W2 hSw
    clear hSw
    try dsimp only at y5 y6
    go_simp
    try with_reducible rfl
  simp only [Act.put, List.setIfInBounds_toArray, List.set_cons_zero, List.set_cons_succ]
  refine wpAnyH_take (i := 7) (v := ?_) rfl (by decide +kernel) (by decide +kernel) (by decide +kernel) (fun _ _ _ h => h) (Or.inl ⟨by rfl, ?_⟩) (by assumption) ?_
  rotate_left
  · intro W2 hSw
    obtain ⟨y5, y6, y7⟩ := HS.out W2 hSw
    clear hSw
    try dsimp only at y5 y6
    go_simp
    try with_reducible rfl
  simp only [Act.put, List.setIfInBounds_toArray, List.set_cons_zero, List.set_cons_succ]
  refine wpAnyH_take (i := 8) (v := ?_) rfl (by decide +kernel) (by decide +kernel) (by decide +kernel) (fun _ _ _ h => h) (Or.inl ⟨by rfl, ?_⟩) (by assumption) ?_
  rotate_left
  · intro W2 hSw
    obtain ⟨y5, y6, y7⟩ := HS.out W2 hSw
    clear hSw
    try dsimp only at y5 y6
    go_simp
    try with_reducible rfl
  simp only [Act.put, List.setIfInBounds_toArray, List.set_cons_zero, List.set_cons_succ]
  refine wpAnyH_take (i := 9) (v := ?_) rfl (by decide +kernel) (by decide +kernel) (by decide +kernel) (fun _ _ _ h => h) (Or.inl ⟨by rfl, ?_⟩) (by assumption) ?_
  rotate_left
  · intro W2 hSw
    obtain ⟨y5, y6, y7⟩ := HS.out W2 hSw
    clear hSw
    try dsimp only at y5 y6
    go_simp
    try with_reducible rfl
  simp only [Act.put, List.setIfInBounds_toArray, List.set_cons_zero, List.set_cons_succ]
  refine wpAnyH_take (i := 10) (v := ?_) rfl (by decide +kernel) (by decide +kernel) (by decide +kernel) (fun _ _ _ h => h) (Or.inl ⟨by rfl, ?_⟩) (by assumption) ?_
  rotate_left
  · intro W2 hSw
    obtain ⟨y5, y6, y7⟩ := HS.out W2 hSw
    clear hSw
    try dsimp only at y5 y6
    go_simp
    try with_reducible rfl
  simp only [Act.put, List.setIfInBounds_toArray, List.set_cons_zero, List.set_cons_succ]
  simp only [List.getElem_toArray, List.getElem_cons_succ, List.getElem_cons_zero, List.setIfInBounds_toArray, List.set_cons_zero, List.set_cons_succ]
  refine wpAnyH_take (i := 11) (v := .int .i64 0) rfl (by decide +kernel) (by decide +kernel) (by decide +kernel) (fun _ _ _ h => h) (Or.inl ⟨by rfl, ?_⟩) (by assumption) ?_
  · intro W2 hSw
    obtain ⟨y5, y6, y7⟩ := HS.out W2 hSw
    clear hSw
    try dsimp only at y5 y6
    go_simp
    first | omega | (with_reducible rfl)
  simp only [Act.put, List.setIfInBounds_toArray, List.set_cons_zero, List.set_cons_succ]
  refine wpAnyH_take (i := 12) (v := .int .i64 0) rfl (by decide +kernel) (by decide +kernel) (by decide +kernel) (fun _ _ _ h => h) (Or.inl ⟨by rfl, ?_⟩) (by assumption) ?_
  · intro W2 hSw
    obtain ⟨y5, y6, y7⟩ := HS.out W2 hSw
    clear hSw
    try dsimp only at y5 y6
    go_simp
    first | exact IntWalk.i64_in 0 (by omega) | (with_reducible rfl)
  simp only [Act.put, List.setIfInBounds_toArray, List.set_cons_zero, List.set_cons_succ]
  refine wpAnyH_take (i := 13) (v := .slice none 0 0) rfl (by decide +kernel) (by decide +kernel) (by decide +kernel) (fun _ _ _ h => h) (Or.inl ⟨by rfl, ?_⟩) (by assumption) ?_
  · intro W2 hSw
    obtain ⟨y5, y6, y7⟩ := HS.out W2 hSw
    clear hSw
    try dsimp only at y5 y6
    go_simp
    try with_reducible rfl
  simp only [Act.put, List.setIfInBounds_toArray, List.set_cons_zero, List.set_cons_succ]
  refine wpAnyH_take (i := 14) (v := .string ⟨#[]⟩) rfl (by decide +kernel) (by decide +kernel) (by decide +kernel) (fun _ _ _ h => h) (Or.inl ⟨by rfl, ?_⟩) (by assumption) ?_
  · intro W2 hSw
    obtain ⟨y5, y6, y7⟩ := HS.out W2 hSw
    clear hSw
    try dsimp only at y5 y6
    go_simp
    try with_reducible rfl
  simp only [Act.put, List.setIfInBounds_toArray, List.set_cons_zero, List.set_cons_succ]
  refine wpAnyH_take (i := 15) (v := ?_) rfl (by decide +kernel) (by decide +kernel) (by decide +kernel) (fun _ _ _ h => h) (Or.inl ⟨by rfl, ?_⟩) (by assumption) ?_
  rotate_left
  · intro W2 hSw
    obtain ⟨y5, y6, y7⟩ := HS.out W2 hSw
    clear hSw
    try dsimp only at y5 y6
    go_simp
    try with_reducible rfl
  simp only [Act.put, List.setIfInBounds_toArray, List.set_cons_zero, List.set_cons_succ]
  simp only [List.getElem_toArray, List.getElem_cons_succ, List.getElem_cons_zero, List.setIfInBounds_toArray, List.set_cons_zero, List.set_cons_succ]
  have H2 : Hid (GL D w0 W1.drew p d (d.k p) lb x ∧ Below W.heap.size W W1.drew) := ⟨H1.out.1.all (Below.refl _ _).drew, H1.out.2.drew⟩
  generalize W1.drew = W2 at H2 hHeld ⊢
  refine wpAnyH_done (by decide +kernel) ?_ _
  clear hHeld
  obtain ⟨r, hr⟩ : ∃ r : ByteArray, r = ⟨#[]⟩ := ⟨_, rfl⟩
  have hrd : r.data.toList = [] := by rw [hr]
  have hrs : r.size = 0 := by rw [hr]; rfl
  have HLX : Hid (∀ W3, Calls Tryz.prog 52 #[.string r, .int .u8 10] W3 fun e w' => e = .returned (.int .i64 (-1)) ∧ Below W3.heap.size W3 w') := fun W3 => lastix_any r 0 W3 (by rw [hrd]; exact hl1) (by omega) (by omega)
  rw [← hr]
  have HCK : Hid (∀ W3, Below W2.heap.size W2 W3 → W3.cell? ⟨lb, 5, none⟩ = some (.slice none 0 0) ∧ (∃ v, W3.cell? ⟨lb, 6, none⟩ = some v) ∧ (∃ v, W3.cell? ⟨lb, 7, none⟩ = some v) ∧ (∃ v, W3.cell? ⟨lb, 8, none⟩ = some v) ∧ ∀ o, W3.frozen? ⟨lb, o, none⟩ = false) := fun W3 hb => by
    obtain ⟨_, _, _, _, _, y5, y6, y7, y8⟩ := (H2.out.1.all hb).blk.cs
    rw [hrv] at y5
    exact ⟨y5, ⟨_, y6⟩, ⟨_, y7⟩, ⟨_, y8⟩, (H2.out.1.all hb).blk.free⟩
  clear hfr hr
  go_step
  go_upto_region 3 with (go_at_call 52; refine (HLX.out _).mono ?_; rintro e1 W3 ⟨rfl, b3⟩)
  obtain ⟨y5, ⟨v6, y6⟩, ⟨v7, y7⟩, ⟨v8, y8⟩, yf⟩ := HCK.out W3 b3
  have y5f := yf 5
  have y6f := yf 6
  have y7f := yf 7
  have y8f := yf 8
  clear yf HCK HLX
  have HZ : Hid (∀ W5, W5 = (((W3.setCell ⟨lb, 5, none⟩ (.slice none 0 0)).setCell ⟨lb, 6, none⟩ (.int .i64 0)).setCell ⟨lb, 7, none⟩ (.int .i64 (-1))).setCell ⟨lb, 8, none⟩ (.bool false) → Calls Tryz.prog 53 #[.pointer (some ⟨lb, 0, none⟩), .string ByteArray.empty] W5 fun e w' => (∃ v, e = .returned v) ∧ ∃ x', GL D w0 w' p (crashL d keep) ((crashL d keep).k p) lb x' ∧ KTouch (x.F lb) W w' ∧ ∀ g ∈ x'.F lb, g ∈ x.F lb ∨ W.heap.size ≤ g) := fun W5 hW5 => by
    have h3 := H2.out.1.all b3
    have hbt : Below W.heap.size W W3 := H2.out.2.trans (b3.mono H2.out.2.size)
    have ht : KTouch [lb] W3 W5 := by
      rw [hW5]
      exact (((KTouch.set _ (by simp) _ _).trans (KTouch.set _ (by simp) _ _)).trans (KTouch.set _ (by simp) _ _)).trans (KTouch.set _ (by simp) _ _)
    have hb5 : LBk W5 lb x.cv p.ticks x.sv x.wv (.pointer (some ⟨x.kb, 0, none⟩)) (.slice none 0 0) ((crashL d keep).safe : Nat) (crashL d keep).fail (crashL d keep).stop := by
      rw [HN.out, hW5]
      exact ((((h3.blk.recs _).safe _).fail _).stop _)
    have h5 := h3.cut (rv' := .slice none 0 0) (bs' := []) ht (by rw [hrv]) (World.ownsRow_nil _ _ _ _) hb5 hl2
    have hxs : ByteArray.empty.data.toList = [] := rfl
    have hF : ∀ g', g' ∈ LW.F { x with rv := .slice none 0 0, bs := [] } lb → g' ∈ x.F lb := fun g' hg' => by
      rcases LW.memD hg' with e | e | e | e
      · rw [e]; exact x.mem0 lb
      · exact LW.mem1 e
      · exact LW.mem3 (by rw [hrv]; exact e)
      · exact LW.mem2 e
    refine (lgredo_any ByteArray.empty _ W5 DP hT hG hp h5 (by
      show (0 : Nat) ≤ 100000
      decide)).mono ?_
    rintro e' w' ⟨hv, x', a1, a2, a3⟩
    rw [hxs, hck] at a1
    have htW : KTouch (x.F lb) W W5 := (KTouch.of hbt).trans (ht.mono (fun m hm => by rw [List.mem_singleton] at hm; rw [hm]; exact x.mem0 lb))
    refine ⟨hv, x', a1, htW.trans (a2.mono hF), fun g' hg' => ?_⟩
    rcases a3 g' hg' with e | e
    · exact Or.inl (hF g' e)
    · exact Or.inr (Nat.le_trans htW.size e)
  clear H H1 H2 hok hl1 hl2 hck
  go_upto_region 5 with fail
  have q1 := HZ.out _ rfl
  clear HZ y5 y6 y7 y8 y5f y6f y7f y8f HS b3 hsm hbl hmb
  clear hrs hrd
  generalize (((W3.setCell ⟨lb, 5, none⟩ (.slice none 0 0)).setCell ⟨lb, 6, none⟩ (.int .i64 0)).setCell ⟨lb, 7, none⟩ (.int .i64 (-1))).setCell ⟨lb, 8, none⟩ (.bool false) = W5 at q1 ⊢
  go_wp2_with (go_at_call 53; refine q1.mono ?_; rintro e1 w6 ⟨⟨v6, rfl⟩, x6, hg6, ht6, hn6⟩; clear q1)
  go_end0
  exact ⟨⟨_, rfl⟩, x6, hg6, ht6, hn6⟩
/-- Behind a crash. -/
theorem lgcrash_any (keep : Int) (W : World) (DP : KerPoke D) (hT : ∀ w, G w → Tabs2 w) (hG : G w0) (hp : plchk p = 0) (h : GL D w0 W p d (d.k p) lb x) (hok : LOk p d) :
    Calls Tryz.prog 22 #[.pointer (some ⟨lb, 0, none⟩), .int .i64 keep] W fun e w' => (∃ v, e = .returned v) ∧ ∃ x', GL D w0 w' p (crashL d keep) ((crashL d keep).k p) lb x' ∧ KTouch (x.F lb) W w' ∧ ∀ g ∈ x'.F lb, g ∈ x.F lb ∨ W.heap.size ≤ g := by
  have hl := h.tx.len
  rcases h.row.2 with ⟨hv, hn⟩ | ⟨g, cap, cur, hv, _⟩
  · exact lgcrash_none keep W DP hT hG hp h hok hv (by rw [← hl]; exact hn)
  · rw [hl] at hv
    exact lgcrash_some keep g cap W DP hT hG hp h hok hv
end
end Go.Proofs.YtajfgmlockjmhaiGreatDoor
