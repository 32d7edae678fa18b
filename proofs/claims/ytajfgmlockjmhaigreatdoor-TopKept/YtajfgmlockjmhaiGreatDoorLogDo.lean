/-
  Package log: do: a record is written, or half of it; then what it says is done.
-/
import Derived.Test.YtajfgmlockjmhaiGreatDoorJt6
import Derived.Test.YtajfgmlockjmhaiGreatDoorJt10
import Derived.Test.YtajfgmlockjmhaiGreatDoorJt1
import Derived.Test.YtajfgmlockjmhaiGreatDoorJt4
namespace Go.Proofs.YtajfgmlockjmhaiGreatDoor
open Go.RowKit

theorem infoByC : (Tryz.prog.info? 5).map (fun i => (i.zero, i.size, i.bytes)) = some (some (.int .u8 0), 1, 1) := by kernel_rfl
section
variable {G : World → Prop} {D : KerC G} {w0 : World} {p : PD} {d : LgD} {lb : Nat} {x : LW}

theorem put_last {d : LgD} {s : LStp} {sz : Nat} (h : d.last = true) : putR d s sz = ⟨d.recs, d.part + sz / 2, d.safe, true, d.fail⟩ := by
  unfold putR
  rw [if_pos h]
theorem put_next {d : LgD} {s : LStp} {sz : Nat} (h : d.last = false) : putR d s sz = ⟨d.recs ++ [(s, sz)], d.part, d.safe, d.stop, d.less⟩ := by
  unfold putR
  rw [if_neg (by rw [h]; decide)]
theorem half_size {r : ByteArray} {l : List UInt8} (h : r.data.toList = l) : (r.extract 0 (l.length / 2)).size = l.length / 2 ∧ Lib.strCells (r.extract 0 (l.length / 2)) = Lib.byteCells (l.take (l.length / 2)) := by
  rw [ext_eq, h, List.drop_zero, byte_str]
  exact ⟨by rw [ba_size]; simp; omega, rfl⟩

set_option maxRecDepth 100000 in
set_option maxHeartbeats 8000000 in
theorem lgdo_last (s : LStp) (v : Value) (W : World) (hT : ∀ w, G w → Pow10 w) (hG : G w0) (h : GL D w0 W p d (d.k p) lb x) (hok : LOk p d) (hst : d.stop = false) (hla : d.last = true) (hs : LsOk s) (hv : Nums W (x.F lb) v (lsN s)) :
    Calls Tryz.prog 49 #[.pointer (some ⟨lb, 0, none⟩), .string ⟨(lsW s).toArray⟩, v] W fun e w' => e = .returned (wErr 6) ∧ ∃ x', GL D w0 w' p (putR d s (recB s).length) (d.k p) lb x' ∧ KTouch (x.F lb) W w' ∧ ∀ g ∈ x'.F lb, g ∈ x.F lb ∨ W.heap.size ≤ g := by
  obtain ⟨jj, hj, hy0, hy1, hy2⟩ := info_parts infoByC
  have hp0 := hok.part hst
  have hsm := h.tx.small hok
  have hrl := recB_len hs
  have htx := h.tx.put hp0 hs
  rw [if_pos hla] at htx
  have hfl : d.fail = 0 := by
    unfold LgD.last at hla
    exact of_decide_eq_true hla
  have htab := hT W (D.all w0 W hG h.since)
  have hln := line_any ⟨(lsW s).toArray⟩ v (lsN s) W htab hv.ints (fun z hz => by have := hs z hz; omega) (by
    rw [ba_size]
    cases s <;> simp [lsW, lsN, goW, pokeW])
  rw [show (lineB (⟨(lsW s).toArray⟩ : ByteArray).data.toList (lsN s)) = recB s by unfold recB; simp] at hln
  obtain ⟨r, hr⟩ : ∃ r : ByteArray, r = ⟨(recB s).toArray⟩ := ⟨_, rfl⟩
  have hrs : r.size = (recB s).length := by rw [hr, ba_size]
  have hrd : r.data.toList = recB s := by rw [hr]
  rw [← hr] at hln
  have hm : Int.tdiv ((recB s).length : Int) 2 = (((recB s).length / 2 : Nat) : Int) := (Int.ofNat_tdiv _ 2).symm
  obtain ⟨hz1, hz2⟩ := half_size hrd
  have hw2 : (((recB s).length : Int) / 2).toNat = (recB s).length / 2 := by omega
  have hw : IntKind.i64.wrap (((recB s).length : Int) / 2) = (((recB s).length / 2 : Nat) : Int) := (IntWalk.i64_in _ (by omega)).trans (by omega)
  have HTX : Hid (LTx (putR d s (recB s).length) (x.bs ++ (recB s).take ((recB s).length / 2))) := htx
  have HPU : Hid (putR d s (recB s).length = ⟨d.recs, d.part + (recB s).length / 2, d.safe, true, d.fail⟩) := put_last hla
  have HGL : Hid (∀ W1, Below W.heap.size W W1 → GL D w0 W1 p d (d.k p) lb x) := fun W1 hb => h.all hb
  have HST : Hid (∀ W1, Below W.heap.size W W1 → Calls Tryz.prog 50 #[.pointer (some ⟨lb, 0, none⟩)] W1 fun e w' => e = .returned (.bool false) ∧ GL D w0 w' p ⟨d.recs, d.part, d.safe, true, d.fail⟩ (d.k p) lb x ∧ KTouch [lb] W1 w') := fun W1 hb => by
    have hg := HGL.out W1 hb
    refine (lgstep_any _ _ _ _ _ _ _ _ _ _ W1 hg.blk).mono ?_
    rw [hfl]
    rintro e w' ⟨rfl, h1, h2⟩
    exact ⟨rfl, hg.cells h2 h1 (hg.tx.same rfl rfl), h2⟩
  clear h hok hla htx htab hv hr
  go_enter Tryz.func49, Tryz.ntmps49
  go_upto_region 3 with (first
    | (go_at_call 68; refine hln.mono ?_; rintro e w1 ⟨rfl, b1⟩; clear hln)
    | (go_at_call 50; refine (HST.out _ b1).mono ?_; rintro e w2 ⟨rfl, hg2, t2⟩))
  have HG2 : Hid (GL D w0 w2 p ⟨d.recs, d.part, d.safe, true, d.fail⟩ (d.k p) lb x ∧ KTouch (x.F lb) W w2 ∧ W.heap.size ≤ w2.heap.size) := ⟨hg2, (KTouch.of b1).trans (t2.mono (fun m hm => by rw [List.mem_singleton] at hm; rw [hm]; exact x.mem0 lb)), Nat.le_trans b1.size t2.size⟩
  obtain ⟨_, _, _, _, _, c5, _, _, _⟩ := hg2.blk.cs
  have f5 := hg2.blk.free 5
  have hrow := hg2.row
  have hs0 : w0.heap.size ≤ w2.heap.size := hg2.since.size
  clear hg2 t2 b1 HST HGL
  have S0 : w2.drew.cell? ⟨lb, 5, none⟩ = some x.rv := by simpa [go_sem] using c5
  refine wp_region_popped (fun W' => W'.cell? ⟨lb, 5, none⟩ = some x.rv) (by kernel_rfl) rfl (by decide +kernel) S0 (fun hHeld => ?_)
  simp only [List.pop_toArray, List.dropLast_cons_cons, List.dropLast_singleton, List.size_toArray, List.length_cons, List.length_nil, Nat.reduceAdd, Array.replicate_succ, Array.replicate_zero, List.push_toArray, List.nil_append, List.cons_append]
  refine wpAnyH_take (i := 0) (v := ?_) rfl (by decide +kernel) (by decide +kernel) (by decide +kernel) (fun _ _ _ h => h) (Or.inl ⟨by rfl, ?_⟩) (by assumption) ?_
  rotate_left
  · intro W hSw
    try dsimp only at hSw
    go_simp
    try with_reducible rfl
  simp only [Act.put, List.setIfInBounds_toArray, List.set_cons_zero]
  refine wpAnyH_take (i := 1) (v := ?_) rfl (by decide +kernel) (by decide +kernel) (by decide +kernel) (fun _ _ _ h => h) (Or.inl ⟨by rfl, ?_⟩) (by assumption) ?_
  rotate_left
  · intro W hSw
    try dsimp only at hSw
    go_simp
    try with_reducible rfl
  simp only [Act.put, List.setIfInBounds_toArray, List.set_cons_zero, List.set_cons_succ]
  refine wpAnyH_take (i := 2) (v := ?_) rfl (by decide +kernel) (by decide +kernel) (by decide +kernel) (fun _ _ _ h => h) (Or.inl ⟨by rfl, ?_⟩) (by assumption) ?_
  rotate_left
  · intro W hSw
    try dsimp only at hSw
    go_simp
    try with_reducible rfl
  simp only [Act.put, List.setIfInBounds_toArray, List.set_cons_zero, List.set_cons_succ]
  refine wpAnyH_take (i := 3) (v := ?_) rfl (by decide +kernel) (by decide +kernel) (by decide +kernel) (fun _ _ _ h => h) (Or.inl ⟨by rfl, ?_⟩) (by assumption) ?_
  rotate_left
  · intro W hSw
    try dsimp only at hSw
    go_simp
    try with_reducible rfl
  simp only [Act.put, List.setIfInBounds_toArray, List.set_cons_zero, List.set_cons_succ]
  refine wpAnyH_take (i := 4) (v := ?_) rfl (by decide +kernel) (by decide +kernel) (by decide +kernel) (fun _ _ _ h => h) (Or.inl ⟨by rfl, ?_⟩) (by assumption) ?_
  rotate_left
  · intro W hSw
    try dsimp only at hSw
    go_simp
    try with_reducible rfl
  simp only [Act.put, List.setIfInBounds_toArray, List.set_cons_zero, List.set_cons_succ]
  refine wpAnyH_take (i := 5) (v := ?_) rfl (by decide +kernel) (by decide +kernel) (by decide +kernel) (fun _ _ _ h => h) (Or.inl ⟨by rfl, ?_⟩) (by assumption) ?_
  rotate_left
  · intro W hSw
    try dsimp only at hSw
    go_simp
    try with_reducible rfl
  simp only [Act.put, List.setIfInBounds_toArray, List.set_cons_zero, List.set_cons_succ]
  refine wpAnyH_take (i := 6) (v := ?_) rfl (by decide +kernel) (by decide +kernel) (by decide +kernel) (fun _ _ _ h => h) (Or.inl ⟨by rfl, ?_⟩) (by assumption) ?_
  rotate_left
  · intro W hSw
    try dsimp only at hSw
    go_simp
    try with_reducible rfl
  simp only [Act.put, List.setIfInBounds_toArray, List.set_cons_zero, List.set_cons_succ]
  refine wpAnyH_take (i := 7) (v := ?_) rfl (by decide +kernel) (by decide +kernel) (by decide +kernel) (fun _ _ _ h => h) (Or.inl ⟨by rfl, ?_⟩) (by assumption) ?_
  rotate_left
  · intro W hSw
    try dsimp only at hSw
    go_simp
    try with_reducible rfl
  simp only [Act.put, List.setIfInBounds_toArray, List.set_cons_zero, List.set_cons_succ]
  refine wpAnyH_take (i := 8) (v := ?_) rfl (by decide +kernel) (by decide +kernel) (by decide +kernel) (fun _ _ _ h => h) (Or.inl ⟨by rfl, ?_⟩) (by assumption) ?_
  rotate_left
  · intro W hSw
    try dsimp only at hSw
    go_simp
    try with_reducible rfl
  simp only [Act.put, List.setIfInBounds_toArray, List.set_cons_zero, List.set_cons_succ]
  refine wpAnyH_take (i := 9) (v := ?_) rfl (by decide +kernel) (by decide +kernel) (by decide +kernel) (fun _ _ _ h => h) (Or.inl ⟨by rfl, ?_⟩) (by assumption) ?_
  rotate_left
  · intro W hSw
    try dsimp only at hSw
    go_simp
    rw [if_pos ⟨by omega, by omega⟩]
  simp only [Act.put, List.setIfInBounds_toArray, List.set_cons_zero, List.set_cons_succ]
  simp only [List.getElem_toArray, List.getElem_cons_succ, List.getElem_cons_zero, List.setIfInBounds_toArray, List.set_cons_zero, List.set_cons_succ]
  refine wpAnyH_ready (rs := [10]) (by decide +kernel) (by simp) ?_
  refine AllReadyH.cons (o := _) rfl (fun K hK => ?_) AllReadyH.nil
  have hrowD : w2.drew.ownsRow w0.heap.size 5 1 x.rv x.bs.length (Lib.byteCells x.bs) := own_below hrow (Below.refl w2.heap.size w2).drew (Nat.le_refl _)
  have hsD : w0.heap.size ≤ w2.drew.heap.size := hs0
  have hbD : x.bs.length + (r.extract 0 ((recB s).length / 2)).size ≤ 140737488355328 := by rw [hz1]; omega
  have ut1 : Tryz.prog.underlying 111 = some (.slice 5) := by kernel_rfl
  have ut2 : Tryz.prog.underlying 9 = some .string := by kernel_rfl
  have q := run_append_str_at (P := Tryz.prog) w2.drew 111 9 111 w0.heap.size 5 jj ut1 ut2 hj hy0 hy1 hy2 x.rv x.bs.length _ hrowD (r.extract 0 ((recB s).length / 2)) hbD hsD
  obtain ⟨rv', wa, hq⟩ := q
  have hra := hq.1
  have hown' := hq.2.1
  have hgr := hq.2.2.1
  have hnw := hq.2.2.2
  clear hq
  obtain ⟨ao', n', cap', hrv⟩ := own_form hown'
  subst hrv
  have hgr2 : w2.grownBy wa x.rv.ownBlock := ⟨hgr.os, hgr.tape, hgr.output, hgr.size, hgr.block⟩
  have hnw2 : ∀ g, (Value.slice ao' n' cap').ownBlock = some g → x.rv.ownBlock = some g ∨ w2.heap.size ≤ g := hnw
  have hlb : wa.heap[lb]? = w2.heap[lb]? := hgr2.block lb HG2.out.1.blk.lt (fun e => (HG2.out.1.a3 lb e.symm).1 rfl)
  have s10 : wa.cell? ⟨lb, 5, none⟩ = some x.rv := (World.cell?_of_block (w := w2) (a := ⟨lb, 5, none⟩) hlb).trans c5
  have f10 : wa.frozen? ⟨lb, 5, none⟩ = false := (World.frozen?_of_block (w := w2) (a := ⟨lb, 5, none⟩) hlb).trans f5
  rw [hz1, hz2, byte_app] at hown'
  have HE : Hid (∃ x', GL D w0 (wa.setCell ⟨lb, 5, none⟩ (.slice ao' n' cap')) p (putR d s (recB s).length) (d.k p) lb x' ∧ KTouch (x.F lb) W (wa.setCell ⟨lb, 5, none⟩ (.slice ao' n' cap')) ∧ ∀ g ∈ x'.F lb, g ∈ x.F lb ∨ W.heap.size ≤ g) := by
    obtain ⟨q1, q2, q3⟩ := HG2.out
    have hln : (x.bs ++ (recB s).take ((recB s).length / 2)).length = x.bs.length + (recB s).length / 2 := by
      rw [List.length_append, List.length_take]
      omega
    obtain ⟨r1, r2, r3⟩ := q1.text (d' := putR d s (recB s).length) hgr2 (by rw [hln]; exact hown') hnw2 (by rw [HPU.out]) (by rw [HPU.out]) (by rw [HPU.out]) HTX.out
    refine ⟨_, r1, q2.trans r2, fun g hg => ?_⟩
    rcases r3 g hg with e | e
    · exact Or.inl e
    · exact Or.inr (Nat.le_trans q3 e)
  refine step_append_str_eq rfl (.tmp 18) (.tmp 23) 111 9 rfl x.rv (.string (r.extract 0 ((recB s).length / 2))) rfl rfl (.slice ao' n' cap') wa hra ?_
  refine hK.out _ _ s10 (fun hHeld => ?_)
  clear hK K hra hown' hgr hgr2 hnw hnw2 hlb
  simp only [Act.put, List.setIfInBounds_toArray, List.set_cons_zero, List.set_cons_succ]
  refine wpAnyH_take (i := 11) (v := ?_) rfl (by decide +kernel) (by decide +kernel) (by decide +kernel) (fun _ _ _ h => h) (Or.inl ⟨by rfl, ?_⟩) (by assumption) ?_
  rotate_left
  · intro W hSw
    try dsimp only at hSw
    go_simp
    try with_reducible rfl
  simp only [Act.put, List.setIfInBounds_toArray, List.set_cons_zero, List.set_cons_succ]
  refine wpAnyH_take (i := 12) (v := ?_) rfl (by decide +kernel) (by decide +kernel) (by decide +kernel) (fun _ _ _ h => h) (Or.inl ⟨by rfl, ?_⟩) (by assumption) ?_
  rotate_left
  · intro W hSw
    try dsimp only at hSw
    go_simp
    try with_reducible rfl
  simp only [Act.put, List.setIfInBounds_toArray, List.set_cons_zero, List.set_cons_succ]
  refine wpAnyH_done (by decide +kernel) ?_ _
  show Oper.wp _ _ _ _ _ _
  go_simp
  go_wp2_with fail
  go_ret
  exact ⟨rfl, HE.out⟩
set_option maxRecDepth 100000 in
set_option maxHeartbeats 8000000 in
theorem lgdo_next (s : LStp) (v : Value) (W : World) (DP : KerPoke D) (hT : ∀ w, G w → Pow10 w) (hG : G w0) (hp : plchk p = 0) (h : GL D w0 W p d (d.k p) lb x) (hok : LOk p d) (hst : d.stop = false) (hla : d.last = false) (hs : LsOk s) (hv : Nums W (x.F lb) v (lsN s)) :
    Calls Tryz.prog 49 #[.pointer (some ⟨lb, 0, none⟩), .string ⟨(lsW s).toArray⟩, v] W fun e w' => e = .returned .nilIface ∧ ∃ x', GL D w0 w' p (putR d s (recB s).length) (doK p (d.k p) s) lb x' ∧ KTouch (x.F lb) W w' ∧ ∀ g ∈ x'.F lb, g ∈ x.F lb ∨ W.heap.size ≤ g := by
  obtain ⟨jj, hj, hy0, hy1, hy2⟩ := info_parts infoByC
  have hp0 := hok.part hst
  have hsm := h.tx.small hok
  have hrl := recB_len hs
  have htx := h.tx.put hp0 hs
  rw [if_neg (by rw [hla]; decide)] at htx
  have hfl : d.fail ≠ 0 := by
    unfold LgD.last at hla
    exact of_decide_eq_false hla
  have htab := hT W (D.all w0 W hG h.since)
  have hln := line_any ⟨(lsW s).toArray⟩ v (lsN s) W htab hv.ints (fun z hz => by have := hs z hz; omega) (by
    rw [ba_size]
    cases s <;> simp [lsW, lsN, goW, pokeW])
  rw [show (lineB (⟨(lsW s).toArray⟩ : ByteArray).data.toList (lsN s)) = recB s by unfold recB; simp] at hln
  obtain ⟨r, hr⟩ : ∃ r : ByteArray, r = ⟨(recB s).toArray⟩ := ⟨_, rfl⟩
  have hrs : r.size = (recB s).length := by rw [hr, ba_size]
  have hrc : Lib.strCells r = Lib.byteCells (recB s) := by rw [hr, byte_str]
  rw [← hr] at hln
  have HTX : Hid (LTx (putR d s (recB s).length) (x.bs ++ recB s)) := htx
  have HPU : Hid (putR d s (recB s).length = ⟨d.recs ++ [(s, (recB s).length)], d.part, d.safe, d.stop, d.less⟩) := put_next hla
  have HGL : Hid (∀ W1, Below W.heap.size W W1 → GL D w0 W1 p d (d.k p) lb x) := fun W1 hb => h.all hb
  have HST : Hid (∀ W1, Below W.heap.size W W1 → Calls Tryz.prog 50 #[.pointer (some ⟨lb, 0, none⟩)] W1 fun e w' => e = .returned (.bool true) ∧ GL D w0 w' p ⟨d.recs, d.part, d.safe, d.stop, d.less⟩ (d.k p) lb x ∧ KTouch [lb] W1 w') := fun W1 hb => by
    have hg := HGL.out W1 hb
    refine (lgstep_any _ _ _ _ _ _ _ _ _ _ W1 hg.blk).mono ?_
    rw [decide_eq_false hfl]
    rintro e w' ⟨rfl, h1, h2⟩
    exact ⟨rfl, hg.cells h2 (by rw [hst]; exact h1) (hg.tx.same rfl rfl), h2⟩
  have HAP : Hid (∀ (W1 : World) (x1 : LW) (d1 : LgD), GL D w0 W1 p d1 (d.k p) lb x1 → Nums W1 x1.FK v (lsN s) → Calls Tryz.prog 87 #[.pointer (some ⟨x1.kb, 0, none⟩), .string ⟨(lsW s).toArray⟩, v] W1 fun e w' => (∃ v, e = .returned v) ∧ ∃ x2, GL D w0 w' p d1 (doK p (d.k p) s) lb x2 ∧ KTouch (x1.F lb) W1 w' ∧ ∀ g ∈ x2.F lb, g ∈ x1.F lb ∨ W1.heap.size ≤ g) := fun W1 x1 d1 h1 hv1 => by
    have hk : KOk p (d.k p) := redo_ok hp _
    have htm := hok.tm
    refine (lgapply_any (lsW s) (lsN s) v W1 DP hG h1.k hp hk (by omega) hv1 hs).mono ?_
    rintro e w' ⟨hv', F', a1, a2, a3⟩
    rw [doW_step] at a1
    exact ⟨hv', _, h1.ker a2 a1 a3, a2.mono (fun m hm => LW.mem2 hm), LW.ker_new a3⟩
  have HNV : Hid (Nums W (x.F lb) v (lsN s)) := hv
  have HLT : Hid (∀ g ∈ x.F lb, g < W.heap.size) := fun g hg => (h.flt g hg).2
  clear h hok hla htx htab hv hr
  go_enter Tryz.func49, Tryz.ntmps49
  go_upto_region 5 with (first
    | (go_at_call 68; refine hln.mono ?_; rintro e w1 ⟨rfl, b1⟩; clear hln)
    | (go_at_call 50; refine (HST.out _ b1).mono ?_; rintro e w2 ⟨rfl, hg2, t2⟩))
  have HG2 : Hid (GL D w0 w2 p ⟨d.recs, d.part, d.safe, d.stop, d.less⟩ (d.k p) lb x ∧ KTouch (x.F lb) W w2 ∧ W.heap.size ≤ w2.heap.size) := ⟨hg2, (KTouch.of b1).trans (t2.mono (fun m hm => by rw [List.mem_singleton] at hm; rw [hm]; exact x.mem0 lb)), Nat.le_trans b1.size t2.size⟩
  obtain ⟨_, _, _, _, c4, c5, _, _, _⟩ := hg2.blk.cs
  have hrow := hg2.row
  have hs0 : w0.heap.size ≤ w2.heap.size := hg2.since.size
  have hbD : x.bs.length + r.size ≤ 140737488355328 := by omega
  have ut1 : Tryz.prog.underlying 111 = some (.slice 5) := by kernel_rfl
  have ut2 : Tryz.prog.underlying 9 = some .string := by kernel_rfl
  clear t2 b1 HST HGL
  have hlbF : ∀ g, x.rv.ownBlock = some g → g ≠ lb := fun g hg => (hg2.a3 g hg).1
  have hlt2 := hg2.blk.lt
  have hfr := hg2.blk.free 5
  clear hg2
  go_upto_region 6 with (at_builtin; refine wpList_append_str_at _ rfl _ _ 111 9 rfl w0.heap.size 5 jj ut1 ut2 hj hy0 hy1 hy2 _ _ _ rfl hrow r rfl hbD hs0 ?_; intro v' wa hown' hgr hnw; obtain ⟨ao', n', cap', hrv⟩ := own_form hown'; subst hrv; have hlb : wa.heap[lb]? = w2.heap[lb]? := hgr.block lb hlt2 (fun e => hlbF lb e.symm rfl); have s10 : wa.cell? ⟨lb, 5, none⟩ = some x.rv := (World.cell?_of_block (w := w2) (a := ⟨lb, 5, none⟩) hlb).trans c5; have f10 : wa.frozen? ⟨lb, 5, none⟩ = false := (World.frozen?_of_block (w := w2) (a := ⟨lb, 5, none⟩) hlb).trans hfr)
  have HW : Hid (∃ x3, x3.kb = x.kb ∧ x3.FK = x.FK ∧ GL D w0 (wa.setCell ⟨lb, 5, none⟩ (.slice ao' n' cap')) p (putR d s (recB s).length) (d.k p) lb x3 ∧ KTouch (x.F lb) W (wa.setCell ⟨lb, 5, none⟩ (.slice ao' n' cap')) ∧ ∀ g ∈ x3.F lb, g ∈ x.F lb ∨ W.heap.size ≤ g) := by
    obtain ⟨q1, q2, q3⟩ := HG2.out
    rw [hrs, hrc, byte_app] at hown'
    have hln : (x.bs ++ recB s).length = x.bs.length + (recB s).length := List.length_append
    obtain ⟨r1, r2, r3⟩ := q1.text (d' := putR d s (recB s).length) hgr (by rw [hln]; exact hown') hnw (by rw [HPU.out]) (by rw [HPU.out]) (by rw [HPU.out]) HTX.out
    refine ⟨{ x with rv := .slice ao' n' cap', bs := x.bs ++ recB s }, rfl, rfl, r1, q2.trans r2, fun g hg => ?_⟩
    rcases r3 g hg with e | e
    · exact Or.inl e
    · exact Or.inr (Nat.le_trans q3 e)
  obtain ⟨x3, hkb, hfk, hg3, ht3, hn3⟩ := HW.out
  clear HW hown' hgr hnw hlb s10 f10 c4 c5 hrow HG2 hlbF hlt2 hfr hs0
  generalize wa.setCell ⟨lb, 5, none⟩ (.slice ao' n' cap') = W3 at hg3 ht3 ⊢
  have hnv3 : Nums W3 x3.FK v (lsN s) := by
    rw [hfk]
    exact (HNV.out.touch ht3).sub (fun g hg => LW.mem2 hg)
  have q1 := HAP.out W3 x3 _ hg3 hnv3
  rw [hkb] at q1
  obtain ⟨_, _, _, _, c4, _, _, _, _⟩ := hg3.blk.cs
  rw [hkb] at c4
  clear hg3 hnv3 HAP HNV
  go_wp2_with (go_at_call 87; refine q1.mono ?_; rintro e w5 ⟨⟨v5, rfl⟩, x5, hg5, ht5, hn5⟩; clear q1)
  go_ret
  exact ⟨rfl, x5, hg5, ht3.chain hn3 ht5, ht3.chainN hn3 hn5⟩
/-- A record that is written, or half of it. -/
theorem lgdo_any (s : LStp) (v : Value) (W : World) (DP : KerPoke D) (hT : ∀ w, G w → Pow10 w) (hG : G w0) (hp : plchk p = 0) (h : GL D w0 W p d (d.k p) lb x) (hok : LOk p d) (hst : d.stop = false) (hs : LsOk s) (hv : Nums W (x.F lb) v (lsN s)) :
    Calls Tryz.prog 49 #[.pointer (some ⟨lb, 0, none⟩), .string ⟨(lsW s).toArray⟩, v] W fun e w' => e = .returned (wErr (if d.last = true then 6 else 0)) ∧ ∃ x', GL D w0 w' p (putR d s (recB s).length) ((putR d s (recB s).length).k p) lb x' ∧ KTouch (x.F lb) W w' ∧ ∀ g ∈ x'.F lb, g ∈ x.F lb ∨ W.heap.size ≤ g := by
  cases hla : d.last with
  | true =>
    have e : (putR d s (recB s).length).k p = d.k p := by
      rw [put_last hla]
      rfl
    rw [e]
    exact lgdo_last s v W hT hG h hok hst hla hs hv
  | false =>
    have e : (putR d s (recB s).length).k p = doK p (d.k p) s := by
      rw [put_next hla]
      show redoK p ((d.recs ++ [(s, (recB s).length)]).map (·.1)) = _
      rw [List.map_append, List.map_singleton, redoK_append]
      rfl
    rw [e]
    exact lgdo_next s v W DP hT hG hp h hok hst hla hs hv
end
end Go.Proofs.YtajfgmlockjmhaiGreatDoor
