/-
  Package log: redo: what whole records say is done in a new kernel.
-/
import Derived.Test.YtajfgmlockjmhaiGreatDoorJt6
import Derived.Test.YtajfgmlockjmhaiGreatDoorJt10
import Derived.Test.YtajfgmlockjmhaiGreatDoorJt1
import Derived.Test.YtajfgmlockjmhaiGreatDoorJt7
import Derived.Test.YtajfgmlockjmhaiGreatDoorRead3
namespace Go.Proofs.YtajfgmlockjmhaiGreatDoor
open Go.RowKit Go.Shelf
attribute [local go_sem] Oper.semAt_some
section
variable {G : World → Prop} {D : KerC G} {w0 : World} {p : PD} {d : LgD} {lb : Nat} {x : LW}

/-- A log whose kernel is another one, made since. -/
theorem GL.rekern {W W2 : World} {k k' : KD} {kb' : Nat} {F' : List Nat} {vc vs vw : Value} (h : GL D w0 W p d k lb x) (hK : D.K W W2 p vc vs vw k' kb' F') :
    GL D w0 (W2.setCell ⟨lb, 4, none⟩ (.pointer (some ⟨kb', 0, none⟩))) p d k' lb { x with kb := kb', FK := F', vc := vc, vs := vs, vw := vw } ∧ KTouch (x.F lb) W (W2.setCell ⟨lb, 4, none⟩ (.pointer (some ⟨kb', 0, none⟩))) ∧ ∀ g ∈ LW.F { x with kb := kb', FK := F', vc := vc, vs := vs, vw := vw } lb, g ∈ x.F lb ∨ W.heap.size ≤ g := by
  have hb := D.since hK
  have hs := hb.size
  have hlt := h.blk.lt
  have hge := h.ge
  have h0 := h.since.size
  have hF := D.ge hK
  have ht : KTouch [lb] W2 (W2.setCell ⟨lb, 4, none⟩ (.pointer (some ⟨kb', 0, none⟩))) := KTouch.set _ (by simp) _ _
  have hold : ∀ g, g < W.heap.size → g ≠ lb → (W2.setCell ⟨lb, 4, none⟩ (.pointer (some ⟨kb', 0, none⟩))).heap[g]? = W.heap[g]? := fun g h1 h2 => (ht.block g (by omega) (by simpa using h2)).trans (hb.block g h1)
  have hlF : lb ∉ F' := fun hm => by
    have := (hF _ hm).1
    omega
  refine ⟨⟨h.since.trans ((hb.mono h0).trans (ht.below (fun m hm => by rw [List.mem_singleton] at hm; omega) (by omega))), (h.blk.to (hb.block lb hlt)).kern _, D.frame (D.lower h.since hK) ht (fun m hm => ?_), h.pl.kept (by simp; omega) (fun g hg => hold g (h.pl.flt g hg).2 (fun e => h.a1 (by rw [← e]; exact hg))), own_block h.row (fun g hg => hold g (h.row.lt g hg).2 (h.a3 g hg).1), h.tx, h.ge, h.a1, hlF, fun g hg => ⟨(h.a3 g hg).1, (h.a3 g hg).2.1, fun hm => ?_⟩, fun g hg hm => ?_⟩, ⟨hb.os, hb.tape, hb.output, by simpa using hs, fun g hg hm => hold g hg (fun e => hm (by rw [e]; exact x.mem0 lb))⟩, fun g hg => ?_⟩
  · rw [List.mem_singleton] at hm
    subst hm
    exact ⟨hlF, hge⟩
  · have h1 := (h.row.lt g hg).2
    have h2 := (hF g hm).1
    omega
  · have h1 := (h.pl.flt g hg).2
    have h2 := (hF g hm).1
    omega
  · rcases LW.memD hg with e | e | e | e
    · exact Or.inl (by rw [e]; exact x.mem0 lb)
    · exact Or.inl (LW.mem1 e)
    · exact Or.inl (LW.mem3 e)
    · exact Or.inr (hF g e).1
/-- What the loop keeps: the kernel, made in W0, its blocks apart from the loop's and the box; the box. -/
def ReI (D : KerC G) (W0 : World) (p : PD) (vc vs vw : Value) (kb bx B : Nat) (k : KD) (W : World) : Prop :=
  (∃ F', D.K W0 W p vc vs vw k kb F' ∧ ∀ g ∈ F', g ≠ bx ∧ g ≠ bx + 1 ∧ g ≠ B ∧ g ≠ B + 1) ∧ Boxed W bx 30 (.pointer (some ⟨kb, 0, none⟩))
theorem rei_steady {α : Type} {W0 : World} {vc vs vw : Value} {kb bx B : Nat} {f : List α → KD} (h0 : W0.heap.size ≤ bx) (h1 : bx + 1 < B) : SteadyD B (bx + 1) (fun pre W => ReI D W0 p vc vs vw kb bx B (f pre) W) := fun s W W' row hs hg hr => by
  obtain ⟨⟨F', hK, hF⟩, hb⟩ := hs
  have ht : KTouch row.toList W W' := ⟨hg.os, hg.tape, hg.output, hg.size, fun k hk hm => hg.block k hk (fun e => hm (by rw [← e]; simp))⟩
  have hm : ∀ m ∈ row.toList, m = bx + 1 ∨ m = B ∨ m = B + 1 := fun m hm => hr m (by simpa using hm)
  refine ⟨⟨F', D.frame hK ht (fun m hmm => ⟨fun hf => ?_, ?_⟩), hF⟩, hb.kept hg (fun e => ?_)⟩
  · have := hF m hf
    rcases hm m hmm with e | e | e <;> omega
  · rcases hm m hmm with e | e | e <;> omega
  · rcases hr bx e.symm with e | e | e <;> omega
theorem fold_ln_ok {p : PD} (hp : plchk p = 0) : ∀ (l : List (List UInt8)) {k : KD}, KOk p k → KOk p (l.foldl (doLn p) k)
  | [], _, h => h
  | y :: l, _, h => fold_ln_ok hp l (doLn_ok hp h y)
theorem fold_ln_time (p : PD) : ∀ (l : List (List UInt8)) (k : KD), (l.foldl (doLn p) k).time ≤ k.time + 999 * (l.length : Int)
  | [], k => by simp
  | y :: l, k => by
    have h1 := fold_ln_time p l (doLn p k y)
    have h2 := doLn_time p k y
    rw [List.foldl_cons, List.length_cons]
    push_cast
    omega
set_option maxRecDepth 1000000 in
set_option maxHeartbeats 8000000 in
theorem lgredo_any (s : ByteArray) (k : KD) (W : World) (DP : KerPoke D) (hT : ∀ w, G w → Tabs2 w) (hG : G w0) (hp : plchk p = 0) (h : GL D w0 W p d k lb x) (hl : s.size ≤ 100000) :
    Calls Tryz.prog 53 #[.pointer (some ⟨lb, 0, none⟩), .string s] W fun e w' => (∃ v, e = .returned v) ∧ ∃ x', GL D w0 w' p d ((linesB s.data.toList).foldl (doLn p) (newK p)) lb x' ∧ KTouch (x.F lb) W w' ∧ ∀ g ∈ x'.F lb, g ∈ x.F lb ∨ W.heap.size ≤ g := by
  have hsl : s.data.toList.length = s.size := by simp
  have hGW : G W := D.all w0 W hG h.since
  have hN := D.new p x.cv x.sv x.wv W hGW h.pl.pln hp
  unfold plV at hN
  obtain ⟨c0, c1, c2, c3, _, _, _, _, _⟩ := h.blk.cs
  obtain ⟨i1, i2, i3, hcv⟩ := own_form h.pl.own
  obtain ⟨j1, j2, j3, hsv⟩ := own_form h.pl.sps
  obtain ⟨l1, l2, l3, hwv⟩ := own_form h.pl.wrs
  have HR : Hid (∀ W2 k' kb' F', D.K W W2 p x.cv x.sv x.wv k' kb' F' → GL D w0 (W2.setCell ⟨lb, 4, none⟩ (.pointer (some ⟨kb', 0, none⟩))) p d k' lb { x with kb := kb', FK := F', vc := x.cv, vs := x.sv, vw := x.wv } ∧ KTouch (x.F lb) W (W2.setCell ⟨lb, 4, none⟩ (.pointer (some ⟨kb', 0, none⟩))) ∧ ∀ g ∈ LW.F { x with kb := kb', FK := F', vc := x.cv, vs := x.sv, vw := x.wv } lb, g ∈ x.F lb ∨ W.heap.size ≤ g) := fun W2 k' kb' F' hK => h.rekern hK
  have hlt := h.blk.lt
  have hfz := h.blk.free 4
  have HLB : Hid (∀ W2 : World, Below W.heap.size W W2 → W2.frozen? ⟨lb, 4, none⟩ = false ∧ ∃ v, W2.cell? ⟨lb, 4, none⟩ = some v) := fun W2 hb => by
    have hb4 := h.blk.to (hb.block lb hlt)
    obtain ⟨_, _, _, _, c4, _, _, _, _⟩ := hb4.cs
    exact ⟨hb4.free 4, _, c4⟩
  have HLT : Hid (∀ g ∈ x.F lb, g < W.heap.size) := fun g hg => (h.flt g hg).2
  have hw0 := h.since.size
  clear h
  refine (callsIn_wide (n := 4)).1 ?_
  refine callsIn_of_wp_marks Tryz.func53 rfl trivial ?_ rfl
  simp only [Tryz.ntmps53, List.size_toArray, List.length_cons, List.length_nil, Nat.reduceAdd, Nat.reduceSub, Array.replicate_succ, Array.replicate_zero, List.push_toArray, List.append_toArray, List.nil_append, List.cons_append]
  rw [hcv] at c0
  rw [hsv] at c2
  rw [hwv] at c3
  rw [hcv, hsv, hwv] at hN
  gi_wp2_with (first
    | (refine ⟨trivial, ?_⟩; gi_at_call 9; refine (callsIn_wide.2 hN).mono ?_; rintro e w1 ⟨kb, FK, rfl, hK⟩; clear hN)
    | (refine ⟨trivial, ?_⟩; gi_at_call 74; refine (callsIn_wide.2 (lines_any s _)).mono ?_; rintro e w3 ⟨rfl, hw3⟩; subst hw3))
  rw [← hcv, ← hsv, ← hwv] at hK
  have hb0 : Below w1.heap.size w1 ((w1.alloc (.cells #[.pointer (some ⟨kb, 0, none⟩)] 30)).alloc (.cells #[.string s] 9)) := ((Below.refl _ _).alloc (Nat.le_refl _) _).alloc (by simp) _
  have z1 : Boxed ((w1.alloc (.cells #[.pointer (some ⟨kb, 0, none⟩)] 30)).alloc (.cells #[.string s] 9)) w1.heap.size 30 (.pointer (some ⟨kb, 0, none⟩)) := (Boxed.new w1 _ _).alloc _
  have z2 : Boxed ((w1.alloc (.cells #[.pointer (some ⟨kb, 0, none⟩)] 30)).alloc (.cells #[.string s] 9)) (w1.heap.size + 1) 9 (encS s.data.toList) := by
    have := Boxed.new (w1.alloc (.cells #[.pointer (some ⟨kb, 0, none⟩)] 30)) 9 (.string s)
    rw [World.size_alloc] at this
    exact this
  have hWs : ((w1.alloc (.cells #[.pointer (some ⟨kb, 0, none⟩)] 30)).alloc (.cells #[.string s] 9)).heap.size = w1.heap.size + 2 := by simp
  generalize (w1.alloc (.cells #[.pointer (some ⟨kb, 0, none⟩)] 30)).alloc (.cells #[.string s] 9) = W0 at hb0 z1 z2 hWs ⊢
  have hK0 := D.frame (M := []) hK (KTouch.of hb0) (by simp)
  have hs1 := (D.since hK).size
  have hFK := D.ge hK
  clear hK hb0
  refine wpIn_rangeHeld (P := Tryz.prog) 6 (Bi := w1.heap.size + 1) (m := 1) rfl (by omega) (gf := 109) (lb := #[.pointer (some ⟨w1.heap.size + 1, 0, none⟩)]) rfl trivial (enters_of Tryz.func109 (by kernel_rfl) rfl)
    (lines_givesN 1000000 (by omega) s.data.toList (w1.heap.size + 1) W0 z2 (by omega)) (by omega) (by omega)
    (fun pre W2 => ReI D W p x.cv x.sv x.wv kb w1.heap.size W0.heap.size ((pre.map (·.1)).foldl (doLn p) (newK p)) W2)
    (fun _ _ => False)
    ?hI ?hIx ?h0 ?assign ?body ?done ?stop
  case hI => exact rei_steady hs1 (by omega)
  case hIx => exact fun _ _ _ _ hs _ _ => hs
  case h0 => exact ⟨⟨FK, hK0, fun g hg => by have := (hFK g hg).2; omega⟩, z1⟩
  case assign =>
    intro l x W K hK
    simp only [List.setIfInBounds_toArray, List.set_cons_zero, List.set_cons_succ] at hK
    gi_wp2
    exact hK
  case body =>
    rintro l pre y W2 ⟨⟨F', hKF, hF⟩, hbx⟩ hlen hsz
    simp only [List.setIfInBounds_toArray, List.set_cons_zero, List.set_cons_succ]
    have hbW := D.since hKF
    have hko := fold_ln_ok hp (pre.map (·.1)) (new_ok hp)
    have htm := fold_ln_time p (pre.map (·.1)) (newK p)
    rw [List.length_map, show (newK p).time = 0 from rfl] at htm
    have hfold : ((pre ++ [y]).map (·.1)).foldl (doLn p) (newK p) = doLn p ((pre.map (·.1)).foldl (doLn p) (newK p)) y.1 := by rw [List.map_append, List.foldl_append]; rfl
    have hrd := read3_any ⟨y.1.toArray⟩ W2 (hT W2 (D.all W W2 hGW hbW)) (by rw [ba_size']; have := y.2; omega)
    rw [show (⟨y.1.toArray⟩ : ByteArray).data.toList = y.1 by simp] at hrd
    have cb := hbx.cell
    generalize (pre.map (·.1)).foldl (doLn p) (newK p) = k1 at *
    have hFlt := D.ge hKF
    cases hx : read3B y.1 with
    | none =>
      have HX : Hid (((pre ++ [y]).map (·.1)).foldl (doLn p) (newK p) = k1) := by
        show _ = _
        rw [hfold]
        unfold doLn
        rw [hx]
      have hrd2 : Calls Tryz.prog 75 #[encS y.1, .int .i64 3] W2 fun e w' => e = .returned (.tuple #[.string ⟨#[]⟩, .slice none 0 0, .bool false]) ∧ Below W2.heap.size W2 w' := by
        refine hrd.mono ?_
        rintro e w' ⟨⟨p', ns, vv, h1, _⟩ | ⟨_, h2⟩, hb⟩
        · rw [hx] at h1; cases h1
        · exact ⟨h2, hb⟩
      clear hrd hx hfold
      gi_wp2_with (refine ⟨trivial, ?_⟩; gi_at_call 75; refine (CallsIn.inRound l (callsIn_wide.2 hrd2)).mono ?_; rintro e W3 ⟨rfl, b3⟩; clear hrd2)
      refine ⟨fun k hk => b3.block k (by omega), ?_⟩
      show ReI D W p x.cv x.sv x.wv kb w1.heap.size W0.heap.size (((pre ++ [y]).map (·.1)).foldl (doLn p) (newK p)) _
      rw [HX.out]
      exact ⟨⟨F', D.frame (M := []) hKF (KTouch.of b3) (by simp), hF⟩, (b3.block _ hbx.lt).trans hbx⟩
    | some q =>
      obtain ⟨wd, ns⟩ := q
      have hns := read3_in hx
      have HX : Hid (((pre ++ [y]).map (·.1)).foldl (doLn p) (newK p) = doW p k1 wd ns) := by
        show _ = _
        rw [hfold]
        unfold doLn
        rw [hx]
      have hrd2 : Calls Tryz.prog 75 #[encS y.1, .int .i64 3] W2 fun e w' => ∃ ao n cap, e = .returned (.tuple #[.string ⟨wd.toArray⟩, .slice ao n cap, .bool true]) ∧ w'.ownsRow W2.heap.size 3 1 (.slice ao n cap) ns.length (ns.map (Value.int .i64)) ∧ Below W2.heap.size W2 w' := by
        refine hrd.mono ?_
        rintro e w' ⟨⟨p', ns', vv, h1, h2, h3⟩ | ⟨h2, _⟩, hb⟩
        · rw [hx] at h1
          cases h1
          obtain ⟨ao, n, cap, rfl⟩ := own_form h3
          exact ⟨ao, n, cap, h2, h3, hb⟩
        · rw [hx] at h2; cases h2
      have HAP : Hid (∀ W3 vv, Below W2.heap.size W2 W3 → W3.ownsRow W2.heap.size 3 1 vv ns.length (ns.map (Value.int .i64)) → Calls Tryz.prog 87 #[.pointer (some ⟨kb, 0, none⟩), .string ⟨wd.toArray⟩, vv] W3 fun e w' => (∃ v, e = .returned v) ∧ ∃ F2, D.K W w' p x.cv x.sv x.wv (doW p k1 wd ns) kb F2 ∧ KTouch F' W3 w' ∧ ∀ g ∈ F2, g ∈ F' ∨ W3.heap.size ≤ g) := fun W3 vv hb ho =>
        lgapply_any wd ns vv W3 DP hGW (D.frame (M := []) hKF (KTouch.of hb) (by simp)) hp hko (by omega) (Nums.own ho (fun g hg => (hFlt g hg).2)) hns
      clear hrd hx hfold
      gi_wp2_with (first
        | (refine ⟨trivial, ?_⟩; gi_at_call 75; refine (CallsIn.inRound l (callsIn_wide.2 hrd2)).mono ?_; rintro e W3 ⟨ao, n, cap, rfl, ho, b3⟩; clear hrd2; have hbx3 : Boxed W3 w1.heap.size 30 (.pointer (some ⟨kb, 0, none⟩)) := (b3.block _ hbx.lt).trans hbx; have cb3 := hbx3.cell; have q3 := HAP.out W3 _ b3 ho)
        | (refine ⟨trivial, ?_⟩; gi_at_call 87; refine (CallsIn.inRound l (callsIn_wide.2 q3)).mono ?_; rintro e W4 ⟨⟨v4, rfl⟩, F2, hK4, t4, hn4⟩; clear q3))
      have hs3 := b3.size
      refine ⟨fun k hk => (t4.block k (by omega) (fun hm => ?_)).trans (b3.block k (by omega)), ?_⟩
      · have := hF k hm
        omega
      · show ReI D W p x.cv x.sv x.wv kb w1.heap.size W0.heap.size (((pre ++ [y]).map (·.1)).foldl (doLn p) (newK p)) _
        rw [HX.out]
        refine ⟨⟨F2, hK4, fun g hg => ?_⟩, (t4.block _ hbx3.lt (fun hm => ?_)).trans hbx3⟩
        · rcases hn4 g hg with e | e
          · exact hF g e
          · omega
        · exact (hF _ hm).1 rfl
  case done =>
    rintro B2 xs W2 hB2 hxs ⟨⟨F', hKF, hF⟩, hbx⟩ hKd
    rw [hxs] at hKF
    have c5 := hbx.cell
    obtain ⟨f4, v4, hc4⟩ := HLB.out W2 (D.since hKF)
    have HG : Hid _ := HR.out W2 _ kb F' hKF
    have hK5 : (W2.setCell ⟨lb, 4, none⟩ (.pointer (some ⟨kb, 0, none⟩))).heap[B2]? = some (.deferred (some [])) := (Below.heap_setCell _ _ _ _ (by show B2 ≠ lb; omega)).trans hKd
    gi_wp2
    refine ⟨by simp, .inl ⟨_, _, rfl, run_takeDeferred hK5, ?_⟩⟩
    generalize W2.setCell ⟨lb, 4, none⟩ (.pointer (some ⟨kb, 0, none⟩)) = W5 at *
    obtain ⟨g1, g2, g3⟩ := HG.out
    have ht : KTouch [B2] W5 (W5.putObj B2 (.deferred none)) := ⟨rfl, rfl, rfl, by simp, fun k hk hm => World.putObj_heap_other (fun e => hm (by simp [e]))⟩
    have hnot : B2 ∉ LW.F { x with kb := kb, FK := F', vc := x.cv, vs := x.sv, vw := x.wv } lb := fun hm => by
      rcases LW.memD hm with e | e | e | e
      · omega
      · have := HLT.out B2 (LW.mem1 e)
        omega
      · have := HLT.out B2 (LW.mem3 e)
        omega
      · exact (hF B2 e).2.2.1 hB2
    refine ⟨.tuple #[], ?_, ⟨_, rfl⟩, _, g1.frame (M := [B2]) ht (fun m hm => ?_), ?_, g3⟩
    · simp [results, Tryz.results53, go_sem]
    · rw [List.mem_singleton] at hm
      subst hm
      exact ⟨hnot, by omega⟩
    · exact ⟨ht.os.trans g2.os, ht.tape.trans g2.tape, ht.output.trans g2.output, Nat.le_trans g2.size ht.size, fun k hk hm => (ht.block k (Nat.lt_of_lt_of_le hk g2.size) (by simp; omega)).trans (g2.block k hk hm)⟩
  case stop =>
    rintro B2 pre W2 _ _ hf
    exact hf.elim
end
end Go.Proofs.YtajfgmlockjmhaiGreatDoor
