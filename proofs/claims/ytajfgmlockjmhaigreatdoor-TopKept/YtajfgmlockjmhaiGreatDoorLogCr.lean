/-
  Package log: Crash.
-/
import Derived.Test.YtajfgmlockjmhaiGreatDoorLogRe
import Derived.Test.YtajfgmlockjmhaiGreatDoorJt6
import Derived.Test.YtajfgmlockjmhaiGreatDoorJt2
import Derived.Laws.BytesArg
namespace Go.Proofs.YtajfgmlockjmhaiGreatDoor
open Go.RowKit
section
variable {G : World → Prop} {D : KerC G} {w0 w w' : World} {p : PD} {d d' : LgD} {k : KD} {lb : Nat} {x : LW}

/-- Its bytes are cut off, in the block where they lie. -/
theorem GL.cut (h : GL D w0 w p d k lb x) {rv' : Value} {bs' : List UInt8} (ht : KTouch [lb] w w') (hob : rv'.ownBlock = x.rv.ownBlock) (hrow : w.ownsRow w0.heap.size 5 1 rv' bs'.length (Lib.byteCells bs')) (hb : LBk w' lb x.cv p.ticks x.sv x.wv (.pointer (some ⟨x.kb, 0, none⟩)) rv' (d'.safe : Nat) d'.fail d'.stop) (htx : LTx d' bs') : GL D w0 w' p d' k lb { x with rv := rv', bs := bs' } := by
  have hs := ht.size
  have hge := h.ge
  exact ⟨h.since.trans (ht.below (fun m hm => by rw [List.mem_singleton] at hm; omega) h.since.size), hb, D.frame h.k ht (fun m hm => by rw [List.mem_singleton] at hm; subst hm; exact ⟨h.a2, hge⟩), h.pl.kept hs (fun g hg => ht.block g (h.pl.flt g hg).2 (fun hm => by rw [List.mem_singleton] at hm; subst hm; exact h.a1 hg)), own_block hrow (fun g hg => ht.block g (hrow.lt g hg).2 (fun hm => by rw [List.mem_singleton] at hm; exact (h.a3 g (by rw [← hob]; exact hg)).1 hm)), htx, h.ge, h.a1, h.a2, fun g hg => h.a3 g (by rw [← hob]; exact hg), h.a4⟩
theorem byte_take (l : List UInt8) (n : Nat) : (Lib.byteCells l).take n = Lib.byteCells (l.take n) := by simp [Lib.byteCells]
/-- A row of bytes, cut off, as a text. -/
theorem bytes_text {base g cap n m : Nat} {bs : List UInt8} (h : w.ownsRow base 5 1 (.slice (some ⟨g, 0, none⟩) n cap) n (Lib.byteCells bs)) (hn : n = bs.length) (hm : m ≤ n) : (convert 111 9 (.slice (some ⟨g, 0, none⟩) m cap)).run Tryz.prog w = .ok (.string ⟨(bs.take m).toArray⟩) w := by
  have hcs := @World.ownsRow.cells _ _ _ _ _ _ _ h
  have hl : ((bs.take m).map fun b => (b.toNat : Int)).length = m := by
    rw [List.length_map, List.length_take]
    omega
  have := run_convert_bytes_arg (P := Tryz.prog) w 111 5 (by kernel_rfl) (by kernel_rfl) g 0 m cap ((bs.take m).map fun b => (b.toNat : Int)) hl (fun i hi => by
    have hib : i < bs.length := by omega
    have hc := hcs (g := g) rfl i (.int .u8 (bs[i]'hib).toNat) (by simp [Lib.byteCells, hib])
    rw [Addr.add_lit] at hc
    rw [hc]
    simp [List.getD, hi, hib]) 9 (by kernel_rfl)
  rw [this]
  have e : strOfNums ((bs.take m).map fun b => (b.toNat : Int)) = ⟨(bs.take m).toArray⟩ := by
    unfold strOfNums
    rw [List.map_map]
    have e1 : (bs.take m).map ((fun n : Int => UInt8.ofNat n.toNat) ∘ fun b : UInt8 => (b.toNat : Int)) = bs.take m := (List.map_congr_left (fun b _ => by simp)).trans (List.map_id _)
    rw [e1]
  rw [e]
theorem high_int {p : PD} {d : LgD} (h : LOk p d) (keep : Int) : d.safe + min keep.toNat (d.bytes - d.safe) = d.high keep ∧ d.safe ≤ d.bytes := by
  have := bytes_safe h
  unfold LgD.high
  omega
/-- Behind a crash the kernel is what the records left say. -/
theorem crash_kern {bs : List UInt8} (h : LTx d bs) (keep : Int) : (linesB (bs.take (crashL d keep).safe)).foldl (doLn p) (newK p) = (crashL d keep).k p := by
  obtain ⟨_, h2, _, h4⟩ := h.crash keep
  rw [h4, flat_lines h2.ok, fold_lines h2.ok]
  rfl
set_option maxRecDepth 100000 in
set_option maxHeartbeats 8000000 in
theorem lgcrash_some (keep : Int) (g cap : Nat) (W : World) (DP : KerPoke D) (hT : ∀ w, G w → Tabs2 w) (hG : G w0) (hp : plchk p = 0) (h : GL D w0 W p d (d.k p) lb x) (hok : LOk p d) (hrv : x.rv = .slice (some ⟨g, 0, none⟩) d.bytes cap) :
    Calls Tryz.prog 22 #[.pointer (some ⟨lb, 0, none⟩), .int .i64 keep] W fun e w' => (∃ v, e = .returned v) ∧ ∃ x', GL D w0 w' p (crashL d keep) ((crashL d keep).k p) lb x' ∧ KTouch (x.F lb) W w' ∧ ∀ g ∈ x'.F lb, g ∈ x.F lb ∨ W.heap.size ≤ g := by
  obtain ⟨hm, hsb⟩ := high_int hok keep
  obtain ⟨hl1, hl2, hl3, hl4⟩ := h.tx.crash keep
  have hck := crash_kern (p := p) h.tx keep
  have hsm := h.tx.small hok
  have hbl := h.tx.len
  have hmb : d.high keep ≤ d.bytes := by omega
  obtain ⟨_, _, _, _, _, c5, c6, c7, c8⟩ := h.blk.cs
  rw [hrv] at c5
  have hfr := h.blk.free
  have HS : Hid (∀ W2, GL D w0 W2 p d (d.k p) lb x → W2.cell? ⟨lb, 5, none⟩ = some (.slice (some ⟨g, 0, none⟩) d.bytes cap) ∧ W2.cell? ⟨lb, 6, none⟩ = some (.int .i64 (d.safe : Nat)) ∧ (convert 111 9 (.slice (some ⟨g, 0, none⟩) (d.high keep) cap)).run Tryz.prog W2 = .ok (.string ⟨(x.bs.take (d.high keep)).toArray⟩) W2) := fun W2 h2 => by
    obtain ⟨_, _, _, _, _, y5, y6, _, _⟩ := h2.blk.cs
    rw [hrv] at y5
    have hr := h2.row
    rw [hrv, hbl] at hr
    exact ⟨y5, y6, bytes_text hr hbl.symm hmb⟩
  have H : Hid (GL D w0 W p d (d.k p) lb x) := h
  have hcap : d.bytes ≤ cap := by
    have hr := h.row
    rw [hrv, hbl] at hr
    exact (own_cap hr).2.2.1
  clear h
  obtain ⟨kp, hkp⟩ : ∃ kp : Nat, kp = keep.toNat := ⟨_, rfl⟩
  obtain ⟨lo, hlo⟩ : ∃ lo : Nat, lo = d.bytes - d.safe := ⟨_, rfl⟩
  obtain ⟨e, he⟩ : ∃ e : Nat, e = min kp lo := ⟨_, rfl⟩
  rw [← hkp, ← hlo, ← he] at hm
  have hli : (d.bytes : Int) - (d.safe : Int) = (lo : Nat) := by omega
  have hlw : IntKind.i64.wrap ((d.bytes : Int) - (d.safe : Int)) = (lo : Nat) := (IntWalk.i64_in _ (by omega)).trans hli
  have hmi : (d.safe : Int) + (e : Int) = (d.high keep : Nat) := by omega
  have hmw : IntKind.i64.wrap ((d.safe : Int) + (e : Int)) = (d.high keep : Nat) := (IntWalk.i64_in _ (by omega)).trans hmi
  generalize d.high keep = m at *
  obtain ⟨n, hn⟩ : ∃ n : Nat, n = (crashL d keep).safe := ⟨_, rfl⟩
  rw [← hn] at hl1 hl2 hl3 hck
  have HN : Hid (n = (crashL d keep).safe) := hn
  clear hl4 hn
  go_enter Tryz.func22, Tryz.ntmps22
  go_upto_region 0 with fail
  go_quiet (fail)
  rw [← hlo]
  have H1 : Hid (GL D w0 (W.drewN nq) p d (d.k p) lb x ∧ Below W.heap.size W (W.drewN nq)) := ⟨H.out.all (below_dN (Below.refl _ _) nq), below_dN (Below.refl _ _) nq⟩
  clear c5 c6 c7 c8
  generalize W.drewN nq = W1 at H1 ⊢
  go_upto_region 1 with fail
  refine wp_region_held_drew (S := fun W2 => GL D w0 W2 p d (d.k p) lb x) (by kernel_rfl) (H1.out.1.all (Below.refl _ _).drew) (fun hHeld => ?_)
  simp only [List.size_toArray, List.length_cons, List.length_nil, Nat.reduceAdd, Array.replicate_succ, Array.replicate_zero, List.push_toArray, List.nil_append, List.cons_append]
  refine wpAnyH_take (i := 0) (v := ?_) rfl (by decide +kernel) (by decide +kernel) (by decide +kernel) (fun _ _ _ h => h) (Or.inl ⟨by rfl, ?_⟩) (by assumption) ?_
  rotate_left
  · intro W2 hSw
    obtain ⟨y5, y6, y7⟩ := HS.out W2 hSw
    clear hSw
    try dsimp only at y5 y6
    go_simp
    try with_reducible rfl
  simp only [Act.put, List.setIfInBounds_toArray, List.set_cons_zero]
  refine wpAnyH_take (i := 1) (v := ?_) rfl (by decide +kernel) (by decide +kernel) (by decide +kernel) (fun _ _ _ h => h) (Or.inl ⟨by rfl, ?_⟩) (by assumption) ?_
  rotate_left
  · intro W2 hSw
    obtain ⟨y5, y6, y7⟩ := HS.out W2 hSw
    clear hSw
    try dsimp only at y5 y6
    go_simp
    try with_reducible rfl
  simp only [Act.put, List.setIfInBounds_toArray, List.set_cons_zero, List.set_cons_succ]
  refine wpAnyH_take (i := 2) (v := ?_) rfl (by decide +kernel) (by decide +kernel) (by decide +kernel) (fun _ _ _ h => h) (Or.inl ⟨by rfl, ?_⟩) (by assumption) ?_
  rotate_left
  · intro W2 hSw
    obtain ⟨y5, y6, y7⟩ := HS.out W2 hSw
    clear hSw
    try dsimp only at y5 y6
    go_simp
    try with_reducible rfl
  simp only [Act.put, List.setIfInBounds_toArray, List.set_cons_zero, List.set_cons_succ]
  refine wpAnyH_take (i := 3) (v := ?_) rfl (by decide +kernel) (by decide +kernel) (by decide +kernel) (fun _ _ _ h => h) (Or.inl ⟨by rfl, ?_⟩) (by assumption) ?_
  rotate_left
  · intro W2 hSw
    obtain ⟨y5, y6, y7⟩ := HS.out W2 hSw
    clear hSw
    try dsimp only at y5 y6
    go_simp
    try with_reducible rfl
  simp only [Act.put, List.setIfInBounds_toArray, List.set_cons_zero, List.set_cons_succ]
  refine wpAnyH_take (i := 4) (v := ?_) rfl (by decide +kernel) (by decide +kernel) (by decide +kernel) (fun _ _ _ h => h) (Or.inl ⟨by rfl, ?_⟩) (by assumption) ?_
  rotate_left
  · intro W2 hSw
    obtain ⟨y5, y6, y7⟩ := HS.out W2 hSw
    clear hSw
    try dsimp only at y5 y6
    go_simp
    try with_reducible rfl
  simp only [Act.put, List.setIfInBounds_toArray, List.set_cons_zero, List.set_cons_succ]
  refine wpAnyH_take (i := 5) (v := ?_) rfl (by decide +kernel) (by decide +kernel) (by decide +kernel) (fun _ _ _ h => h) (Or.inl ⟨by rfl, ?_⟩) (by assumption) ?_
  rotate_left
  · intro W2 hSw
    obtain ⟨y5, y6, y7⟩ := HS.out W2 hSw
    clear hSw
    try dsimp only at y5 y6
    go_simp
    try with_reducible rfl
  simp only [Act.put, List.setIfInBounds_toArray, List.set_cons_zero, List.set_cons_succ]
  refine wpAnyH_take (i := 6) (v := ?_) rfl (by decide +kernel) (by decide +kernel) (by decide +kernel) (fun _ _ _ h => h) (Or.inl ⟨by rfl, ?_⟩) (by assumption) ?_
  rotate_left
  · intro W2 hSw
    obtain ⟨y5, y6, y7⟩ := HS.out W2 hSw
    clear hSw
    try dsimp only at y5 y6
    go_simp
    try with_reducible rfl
  simp only [Act.put, List.setIfInBounds_toArray, List.set_cons_zero, List.set_cons_succ]
  refine wpAnyH_take (i := 7) (v := ?_) rfl (by decide +kernel) (by decide +kernel) (by decide +kernel) (fun _ _ _ h => h) (Or.inl ⟨by rfl, ?_⟩) (by assumption) ?_
  rotate_left
  · intro W2 hSw
    obtain ⟨y5, y6, y7⟩ := HS.out W2 hSw
    clear hSw
    try dsimp only at y5 y6
    go_simp
    try with_reducible rfl
  simp only [Act.put, List.setIfInBounds_toArray, List.set_cons_zero, List.set_cons_succ]
  refine wpAnyH_take (i := 8) (v := ?_) rfl (by decide +kernel) (by decide +kernel) (by decide +kernel) (fun _ _ _ h => h) (Or.inl ⟨by rfl, ?_⟩) (by assumption) ?_
  rotate_left
  · intro W2 hSw
    obtain ⟨y5, y6, y7⟩ := HS.out W2 hSw
    clear hSw
    try dsimp only at y5 y6
    go_simp
    try with_reducible rfl
  simp only [Act.put, List.setIfInBounds_toArray, List.set_cons_zero, List.set_cons_succ]
  refine wpAnyH_take (i := 9) (v := .int .i64 (kp : Nat)) rfl (by decide +kernel) (by decide +kernel) (by decide +kernel) (fun _ _ _ h => h) (Or.inl ⟨by rfl, ?_⟩) (by assumption) ?_
  · intro W2 hSw
    obtain ⟨y5, y6, y7⟩ := HS.out W2 hSw
    clear hSw
    try dsimp only at y5 y6
    go_simp
    try with_reducible rfl
  simp only [Act.put, List.setIfInBounds_toArray, List.set_cons_zero, List.set_cons_succ]
  refine wpAnyH_take (i := 10) (v := ?_) rfl (by decide +kernel) (by decide +kernel) (by decide +kernel) (fun _ _ _ h => h) (Or.inl ⟨by rfl, ?_⟩) (by assumption) ?_
  rotate_left
  · intro W2 hSw
    obtain ⟨y5, y6, y7⟩ := HS.out W2 hSw
    clear hSw
    try dsimp only at y5 y6
    go_simp
    try with_reducible rfl
  simp only [Act.put, List.setIfInBounds_toArray, List.set_cons_zero, List.set_cons_succ]
  simp only [List.getElem_toArray, List.getElem_cons_succ, List.getElem_cons_zero, List.setIfInBounds_toArray, List.set_cons_zero, List.set_cons_succ]
  refine wpAnyH_take (i := 11) (v := .int .i64 (e : Nat)) rfl (by decide +kernel) (by decide +kernel) (by decide +kernel) (fun _ _ _ h => h) (Or.inl ⟨by rfl, ?_⟩) (by assumption) ?_
  · intro W2 hSw
    obtain ⟨y5, y6, y7⟩ := HS.out W2 hSw
    clear hSw
    try dsimp only at y5 y6
    go_simp
    omega
  simp only [Act.put, List.setIfInBounds_toArray, List.set_cons_zero, List.set_cons_succ]
  refine wpAnyH_take (i := 12) (v := .int .i64 (m : Nat)) rfl (by decide +kernel) (by decide +kernel) (by decide +kernel) (fun _ _ _ h => h) (Or.inl ⟨by rfl, ?_⟩) (by assumption) ?_
  · intro W2 hSw
    obtain ⟨y5, y6, y7⟩ := HS.out W2 hSw
    clear hSw
    try dsimp only at y5 y6
    go_simp
    exact (IntWalk.i64_in _ (by omega)).trans (by omega)
  simp only [Act.put, List.setIfInBounds_toArray, List.set_cons_zero, List.set_cons_succ]
  refine wpAnyH_take (i := 13) (v := .slice (some ⟨g, 0, none⟩) m cap) rfl (by decide +kernel) (by decide +kernel) (by decide +kernel) (fun _ _ _ h => h) (Or.inl ⟨by rfl, ?_⟩) (by assumption) ?_
  · intro W2 hSw
    obtain ⟨y5, y6, y7⟩ := HS.out W2 hSw
    clear hSw
    try dsimp only at y5 y6
    go_simp
    exact fun hc => absurd hc (by omega)
  simp only [Act.put, List.setIfInBounds_toArray, List.set_cons_zero, List.set_cons_succ]
  refine wpAnyH_take (i := 14) (v := .string ⟨(x.bs.take m).toArray⟩) rfl (by decide +kernel) (by decide +kernel) (by decide +kernel) (fun _ _ _ h => h) (Or.inl ⟨by rfl, ?_⟩) (by assumption) ?_
  · intro W2 hSw
    obtain ⟨y5, y6, y7⟩ := HS.out W2 hSw
    clear hSw
    try dsimp only at y5 y6
    go_simp
    try with_reducible rfl
  simp only [Act.put, List.setIfInBounds_toArray, List.set_cons_zero, List.set_cons_succ]
  refine wpAnyH_take (i := 15) (v := ?_) rfl (by decide +kernel) (by decide +kernel) (by decide +kernel) (fun _ _ _ h => h) (Or.inl ⟨by rfl, ?_⟩) (by assumption) ?_
  rotate_left
  · intro W2 hSw
    obtain ⟨y5, y6, y7⟩ := HS.out W2 hSw
    clear hSw
    try dsimp only at y5 y6
    go_simp
    try with_reducible rfl
  simp only [Act.put, List.setIfInBounds_toArray, List.set_cons_zero, List.set_cons_succ]
  simp only [List.getElem_toArray, List.getElem_cons_succ, List.getElem_cons_zero, List.setIfInBounds_toArray, List.set_cons_zero, List.set_cons_succ]
  have H2 : Hid (GL D w0 W1.drew p d (d.k p) lb x ∧ Below W.heap.size W W1.drew) := ⟨H1.out.1.all (Below.refl _ _).drew, H1.out.2.drew⟩
  generalize W1.drew = W2 at H2 hHeld ⊢
  refine wpAnyH_done (by decide +kernel) ?_ _
  clear hHeld
  obtain ⟨r, hr⟩ : ∃ r : ByteArray, r = ⟨(x.bs.take m).toArray⟩ := ⟨_, rfl⟩
  have hrd : r.data.toList = x.bs.take m := by rw [hr]
  have hrs : r.size = m := by
    have h1 : r.data.toList.length = r.size := by simp
    rw [← h1, hrd, List.length_take]
    omega
  have HLX : Hid (∀ W3, Calls Tryz.prog 52 #[.string r, .int .u8 10] W3 fun e w' => e = .returned (.int .i64 ((n : Int) - 1)) ∧ Below W3.heap.size W3 w') := fun W3 => lastix_any r n W3 (by rw [hrd]; exact hl1) (by omega) (by omega)
  rw [← hr]
  have hn1 : ((n : Int) - 1) + 1 = (n : Int) := by omega
  have HCK : Hid (∀ W3, Below W2.heap.size W2 W3 → W3.cell? ⟨lb, 5, none⟩ = some (.slice (some ⟨g, 0, none⟩) d.bytes cap) ∧ (∃ v, W3.cell? ⟨lb, 6, none⟩ = some v) ∧ (∃ v, W3.cell? ⟨lb, 7, none⟩ = some v) ∧ (∃ v, W3.cell? ⟨lb, 8, none⟩ = some v) ∧ ∀ o, W3.frozen? ⟨lb, o, none⟩ = false) := fun W3 hb => by
    obtain ⟨_, _, _, _, _, y5, y6, y7, y8⟩ := (H2.out.1.all hb).blk.cs
    rw [hrv] at y5
    exact ⟨y5, ⟨_, y6⟩, ⟨_, y7⟩, ⟨_, y8⟩, (H2.out.1.all hb).blk.free⟩
  clear hfr hr
  go_step
  go_upto_region 3 with (go_at_call 52; refine (HLX.out _).mono ?_; rintro e1 W3 ⟨rfl, b3⟩)
  obtain ⟨y5, ⟨v6, y6⟩, ⟨v7, y7⟩, ⟨v8, y8⟩, yf⟩ := HCK.out W3 b3
  have y5f := yf 5
  have y6f := yf 6
  have y7f := yf 7
  have y8f := yf 8
  clear yf HCK HLX
  have HZ : Hid (∀ W5, W5 = (((W3.setCell ⟨lb, 5, none⟩ (.slice (some ⟨g, 0, none⟩) n cap)).setCell ⟨lb, 6, none⟩ (.int .i64 (n : Nat))).setCell ⟨lb, 7, none⟩ (.int .i64 (-1))).setCell ⟨lb, 8, none⟩ (.bool false) → Calls Tryz.prog 53 #[.pointer (some ⟨lb, 0, none⟩), .string (r.extract 0 n)] W5 fun e w' => (∃ v, e = .returned v) ∧ ∃ x', GL D w0 w' p (crashL d keep) ((crashL d keep).k p) lb x' ∧ KTouch (x.F lb) W w' ∧ ∀ g ∈ x'.F lb, g ∈ x.F lb ∨ W.heap.size ≤ g) := fun W5 hW5 => by
    have h3 := H2.out.1.all b3
    have hbt : Below W.heap.size W W3 := H2.out.2.trans (b3.mono H2.out.2.size)
    have ht : KTouch [lb] W3 W5 := by
      rw [hW5]
      exact (((KTouch.set _ (by simp) _ _).trans (KTouch.set _ (by simp) _ _)).trans (KTouch.set _ (by simp) _ _)).trans (KTouch.set _ (by simp) _ _)
    have htl : (x.bs.take n).length = n := by
      rw [List.length_take]
      omega
    have hr3 := h3.row
    rw [hrv, hbl] at hr3
    have hb5 : LBk W5 lb x.cv p.ticks x.sv x.wv (.pointer (some ⟨x.kb, 0, none⟩)) (.slice (some ⟨g, 0, none⟩) n cap) ((crashL d keep).safe : Nat) (crashL d keep).fail (crashL d keep).stop := by
      rw [← HN.out, hW5]
      exact ((((h3.blk.recs _).safe _).fail _).stop _)
    have h5 := h3.cut (rv' := .slice (some ⟨g, 0, none⟩) n cap) (bs' := x.bs.take n) ht (by rw [hrv]; rfl) (by rw [htl, ← byte_take]; exact own_cut hr3 (by omega)) hb5 hl2
    have hxs : (r.extract 0 n).data.toList = x.bs.take n := by
      rw [ext_eq, hrd, List.drop_zero, List.take_take, Nat.min_eq_left (by omega)]
    have hF : ∀ g', g' ∈ LW.F { x with rv := .slice (some ⟨g, 0, none⟩) n cap, bs := x.bs.take n } lb → g' ∈ x.F lb := fun g' hg' => by
      rcases LW.memD hg' with e | e | e | e
      · rw [e]; exact x.mem0 lb
      · exact LW.mem1 e
      · exact LW.mem3 (by rw [hrv]; exact e)
      · exact LW.mem2 e
    refine (lgredo_any (r.extract 0 n) _ W5 DP hT hG hp h5 (by
      have h1 : (r.extract 0 n).data.toList.length = (r.extract 0 n).size := by simp
      rw [← h1, hxs, htl]
      omega)).mono ?_
    rintro e' w' ⟨hv, x', a1, a2, a3⟩
    rw [hxs, hck] at a1
    have htW : KTouch (x.F lb) W W5 := (KTouch.of hbt).trans (ht.mono (fun m hm => by rw [List.mem_singleton] at hm; rw [hm]; exact x.mem0 lb))
    refine ⟨hv, x', a1, htW.trans (a2.mono hF), fun g' hg' => ?_⟩
    rcases a3 g' hg' with e | e
    · exact Or.inl (hF g' e)
    · exact Or.inr (Nat.le_trans htW.size e)
  clear H H1 H2 hok hl1 hl2 hck
  go_upto_region 5 with fail
  have q1 := HZ.out _ rfl
  clear HZ y5 y6 y7 y8 y5f y6f y7f y8f HS b3 hsm hbl hmb hcap hn1 hmi hmw hli hlw
  have hnr : n ≤ r.size := by omega
  have hnr2 : (n : Int) ≤ (r.size : Int) := by omega
  clear hrs hrd hl3 hm hsb he hlo hkp
  generalize (((W3.setCell ⟨lb, 5, none⟩ (.slice (some ⟨g, 0, none⟩) n cap)).setCell ⟨lb, 6, none⟩ (.int .i64 (n : Nat))).setCell ⟨lb, 7, none⟩ (.int .i64 (-1))).setCell ⟨lb, 8, none⟩ (.bool false) = W5 at q1 ⊢
  go_wp2_with (go_at_call 53; refine q1.mono ?_; rintro e1 w6 ⟨⟨v6, rfl⟩, x6, hg6, ht6, hn6⟩; clear q1)
  go_end0
  exact ⟨⟨_, rfl⟩, x6, hg6, ht6, hn6⟩
end
end Go.Proofs.YtajfgmlockjmhaiGreatDoor
