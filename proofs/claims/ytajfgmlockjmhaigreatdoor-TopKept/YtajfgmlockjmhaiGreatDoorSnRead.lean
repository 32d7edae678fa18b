/-
  Package snap: read. A text as what was kept; of any text.
-/
import Derived.Test.YtajfgmlockjmhaiGreatDoorJt16
namespace Go.Proofs.YtajfgmlockjmhaiGreatDoor
open Go.RowKit Go.Shelf
attribute [local go_sem] Oper.semAt_some

set_option maxRecDepth 1000000 in
set_option maxHeartbeats 8000000 in
theorem snread_any (s : ByteArray) (R V : Nat) (hR : R ≤ 5) (hV : V ≤ 12) (w : World) (ht : Tabs2 w) (hl : s.size ≤ 1099511627776) :
    Calls Tryz.prog 43 #[.string s, .int .i64 R, .int .i64 V] w fun e w' => Below w.heap.size w w' ∧
      ((∃ (a : KA) (vr vw : Value) (us : List (Value × Int)) (base b : Nat), kpRun R V KA.none (linesB s.data.toList) = some a ∧ a.i = 1 + R + V ∧ e = .returned (.tuple #[.agg #[.int .i64 a.t, vr, vw], .bool true]) ∧ w.heap.size ≤ base ∧ KpB w' base b a.t vr vw a.rs us a.zs) ∨
       ((∀ a, kpRun R V KA.none (linesB s.data.toList) = some a → a.i ≠ 1 + R + V) ∧ ∃ n x1 x2 x3 y1 y2 y3, e = .returned (.tuple #[.agg #[.int .i64 n, .slice x1 x2 x3, .slice y1 y2 y3], .bool false]))) := by
  have hsl : s.data.toList.length = s.size := by simp
  have HR : Hid (∀ (n g : Nat) (x : ByteArray) (W : World), n ≤ 12 → g = W.heap.size → Calls Tryz.prog 73 #[.slice (some ⟨g, 0, none⟩) 1 1, .int .i64 n] (W.alloc (.cells #[.string x] 9)) fun e w' => ∃ k, e = .returned (.slice (some ⟨k, 0, none⟩) n n) ∧ RepB (W.alloc (.cells #[.string x] 9)) w' k n n x) := fun n g x W hn h => repeat_any _ n hn g _ (cell_at_new h _ _)
  have hR12 : R ≤ 12 := by omega
  have m1 : Hid True := trivial
  refine (callsIn_wide (n := 4)).1 ?_
  refine callsIn_of_wp_marks Tryz.func43 rfl trivial ?_ rfl
  simp only [Tryz.ntmps43, List.size_toArray, List.length_cons, List.length_nil, Nat.reduceAdd, Nat.reduceSub, Array.replicate_succ, Array.replicate_zero, List.push_toArray, List.append_toArray, List.nil_append, List.cons_append]
  gi_wp2_with (first
    | (clear m1; refine ⟨trivial, ?_⟩; gi_at_call 73; refine (callsIn_wide.2 (HR.out _ _ _ _ hR12 (by simp only [World.size_alloc]))).mono ?_; rintro e w1 ⟨k1, rfl, r1⟩)
    | (refine ⟨trivial, ?_⟩; gi_at_call 73; refine (callsIn_wide.2 (HR.out _ _ _ _ hV rfl)).mono ?_; rintro e w2 ⟨k2, rfl, r2⟩)
    | (refine ⟨trivial, ?_⟩; gi_at_call 72; refine (callsIn_wide.2 (ahead_call R V hR12 hV _ _ _ _ _ _ _ _ (by simp only [World.size_alloc]; omega) (three_time w _ _ _) r1 r2)).mono ?_; rintro e w3 ⟨ga, c, rfl, own3, b3⟩)
    | (refine ⟨trivial, ?_⟩; gi_at_call 74; refine (callsIn_wide.2 (lines_any s _)).mono ?_; rintro e w4 ⟨rfl, hw4⟩; subst hw4))
  have hb3 : Below w.heap.size w w3 := ((((Below.refl _ w).alloc (Nat.le_refl _) _).alloc (by simp) _).alloc (by simp; omega) _).alloc (by simp; omega) _ |>.trans (b3.mono (by simp; omega))
  have z6 : w3.heap[w.heap.size]? = some (.cells #[.int .i64 0, .slice none 0 0, .slice none 0 0] 103 (0, 0)) := (b3.block _ (by simp; omega)).trans (res_six w _ _ _)
  have z7 : w3.heap[w.heap.size + 1]? = some (.cells #[.bool false] 4 (0, 0)) := (b3.block _ (by simp)).trans (res_seven w _ _ _)
  have hs3 : w.heap.size + 4 ≤ w3.heap.size := by have := b3.size; simpa using this
  clear b3 r1 r2 HR
  have hI0 := kp_first w3 (.slice (some ⟨ga, 0, none⟩) (1 + R + V) c) (.string s) 45 9
  have hbx : Boxed (((w3.alloc (.cells #[.slice (some ⟨ga, 0, none⟩) (1 + R + V) c] 45)).alloc (.cells #[.int .i64 0, .slice none 0 0, .slice none 0 0] 103)).alloc (.cells #[.string s] 9)) w3.heap.size 45 (.slice (some ⟨ga, 0, none⟩) (1 + R + V) c) := ((Boxed.new w3 _ _).alloc _).alloc _
  have hbi : Boxed (((w3.alloc (.cells #[.slice (some ⟨ga, 0, none⟩) (1 + R + V) c] 45)).alloc (.cells #[.int .i64 0, .slice none 0 0, .slice none 0 0] 103)).alloc (.cells #[.string s] 9)) (w3.heap.size + 1 + 1) 9 (encS s.data.toList) := by
    have h := Boxed.new ((w3.alloc (.cells #[.slice (some ⟨ga, 0, none⟩) (1 + R + V) c] 45)).alloc (.cells #[.int .i64 0, .slice none 0 0, .slice none 0 0] 103)) 9 (.string s)
    simp only [World.size_alloc] at h
    exact h
  have hsz : (((w3.alloc (.cells #[.slice (some ⟨ga, 0, none⟩) (1 + R + V) c] 45)).alloc (.cells #[.int .i64 0, .slice none 0 0, .slice none 0 0] 103)).alloc (.cells #[.string s] 9)).heap.size = w3.heap.size + 3 := by simp
  have hbw : Below w3.heap.size w3 (((w3.alloc (.cells #[.slice (some ⟨ga, 0, none⟩) (1 + R + V) c] 45)).alloc (.cells #[.int .i64 0, .slice none 0 0, .slice none 0 0] 103)).alloc (.cells #[.string s] 9)) := (((Below.refl _ w3).alloc (Nat.le_refl _) _).alloc (by simp) _).alloc (by simp; omega) _
  generalize ((w3.alloc (.cells #[.slice (some ⟨ga, 0, none⟩) (1 + R + V) c] 45)).alloc (.cells #[.int .i64 0, .slice none 0 0, .slice none 0 0] 103)).alloc (.cells #[.string s] 9) = W0 at hI0 hbx hbi hsz hbw ⊢
  have hb0 : Below w.heap.size w W0 := hb3.trans (hbw.mono (by omega))
  have own0 := own_block own3 (fun g hg => hbw.block g (own3.lt g hg).2)
  have z60 := (hbw.block _ (by omega)).trans z6
  have z70 := (hbw.block _ (by omega)).trans z7
  have hga : ga < w3.heap.size := (own3.lt ga rfl).2
  have hcap := (own_cap own3).2.2.1
  rw [← hsz] at hI0
  clear z6 z7 own3 hbw hb3
  refine wpIn_rangeState (P := Tryz.prog) 10 (Bi := w3.heap.size + 1 + 1) (m := 1) rfl (by omega) (gf := 109) (lb := #[.pointer (some ⟨w3.heap.size + 1 + 1, 0, none⟩)]) rfl trivial (enters_of Tryz.func109 (by kernel_rfl) rfl)
    (lines_givesN 1099511627776 (by omega) s.data.toList (w3.heap.size + 1 + 1) W0 hbi (by omega)) (by omega) (by omega)
    (fun pre W => RdI R V ga c W0.heap.size w3.heap.size (w3.heap.size + 1) (w3.heap.size + 1 + 1) W0 (pre.map (·.1)) W ∧ (Below w.heap.size w W ∧ w.heap.size ≤ W.heap.size))
    (fun pre W => RdX R V w.heap.size (w.heap.size + 1) (pre.map (·.1)) W ∧ (Below w.heap.size w W ∧ w.heap.size ≤ W.heap.size))
    ?hI ?hIx ?h0 ?assign ?body ?done ?stop
  case hI => exact Steady.and (rdi_steady (by omega) (by omega) (by omega) (by omega) (by omega) _) (steady_below (by omega) (by omega))
  case hIx => exact Steady.and (rdx_steady (by omega) (by omega) _) (steady_below (by omega) (by omega))
  case h0 => exact ⟨⟨⟨KA.none, _, _, _, _, rfl, hI0, hbx, ⟨⟨ga, 0, none⟩, rfl, by simp [KA.none], hcap, fun _ => rfl⟩⟩, fun k _ _ _ _ => rfl⟩, hb0, by omega⟩
  case assign =>
    intro l x W K hK
    simp only [List.setIfInBounds_toArray, List.set_cons_zero, List.set_cons_succ] at hK
    gi_wp2
    exact hK
  case body =>
    rintro l pre x W ⟨⟨⟨a, vr, vw, va, us, hrun, hkp, hbv, hah⟩, old⟩, hb, hb'⟩ hlen
    simp only [List.setIfInBounds_toArray, List.set_cons_zero, List.set_cons_succ]
    have hrd : Calls Tryz.prog 75 #[encS x.1, .int .i64 7] W fun e w' => ((∃ p ns vv, read7B x.1 = some (p, ns) ∧ e = .returned (.tuple #[.string ⟨p.toArray⟩, vv, .bool true]) ∧ w'.ownsRow W.heap.size 3 1 vv ns.length (ns.map (Value.int .i64))) ∨ (read7B x.1 = none ∧ e = .returned (.tuple #[.string ⟨#[]⟩, .slice none 0 0, .bool false]))) ∧ Below W.heap.size W w' := read7_any ⟨x.1.toArray⟩ W (ht.all hb) (by rw [ba_size']; exact x.2)
    have o6 := (old w.heap.size (by omega) (by omega) (by omega) (by omega)).trans z60
    have o7 := (old (w.heap.size + 1) (by omega) (by omega) (by omega) (by omega)).trans z70
    cases hx : read7B x.1 with
    | none =>
      have hq : Calls Tryz.prog 75 #[encS x.1, .int .i64 7] W fun e w' => e = .returned (.tuple #[.string ⟨#[]⟩, .slice none 0 0, .bool false]) ∧ Below W.heap.size W w' := by
        refine hrd.mono ?_
        rintro e w' ⟨⟨p, ns, vv, h1, _⟩ | ⟨_, he⟩, hb⟩
        · rw [hx] at h1; cases h1
        · exact ⟨he, hb⟩
      have HX : Hid (kpRun R V KA.none ((pre ++ [x]).map (·.1)) = none) := by
        show _ = _
        rw [List.map_append]
        exact kpRun_bad hrun (kpLine_none hx)
      clear hx hrd hrun hkp hbv hah
      gi_wp2_with (first | (refine ⟨trivial, ?_⟩; gi_at_call 75; refine (CallsIn.inRound l (callsIn_wide.2 hq)).mono ?_; rintro e W2 ⟨rfl, b2⟩; clear hq; obtain ⟨e6, e7, y60, y61, y62, y70, f60, f61, f62, f70, q6, q7⟩ := res_cells b2 o6 o7) | (refine ⟨trivial, ?_⟩))
      exact read_bad HX.out hb hb' b2 e6 e7 (by omega) (Nat.le_refl _) (by omega)
    | some q =>
      obtain ⟨wd, ns⟩ := q
      have hnl : ns.length ≤ 2000000000000 := by have h1 := read7B_len hx; have h2 := x.2; omega
      have hq : Calls Tryz.prog 75 #[encS x.1, .int .i64 7] W fun e w' => ∃ ao cap, e = .returned (.tuple #[.string ⟨wd.toArray⟩, .slice ao ns.length cap, .bool true]) ∧ w'.ownsRow W.heap.size 3 1 (.slice ao ns.length cap) ns.length (ints ns) ∧ Below W.heap.size W w' := by
        refine hrd.mono ?_
        rintro e w' ⟨⟨p, ns', vv, h1, he, hown⟩ | ⟨h1, _⟩, hb⟩
        · rw [hx] at h1
          injection h1 with h1
          injection h1 with h1 h2
          subst h1
          subst h2
          obtain ⟨ao, cap, rfl⟩ := sl_form hown
          exact ⟨ao, cap, he, hown, hb⟩
        · rw [hx] at h1; cases h1
      have haok := kpRun_ok (kaok_none R V) hrun
      have hbs := hkp.le
      clear hrd
      cases hw : kpWord R V a.i with
      | none =>
        have HX : Hid (kpRun R V KA.none ((pre ++ [x]).map (·.1)) = none) := by
          show _ = _
          rw [List.map_append]
          exact kpRun_bad hrun (kpLine_word hx (by rw [hw]; exact fun e => (by cases e)))
        obtain ⟨A, rfl, h1, h2, _⟩ := hah
        have hz : 1 + R + V - a.i = 0 := by have := (kpWord_end h1).1 hw; omega
        rw [hz] at hbv
        obtain ⟨cc, hcc⟩ : ∃ cc, cc = c - a.i := ⟨_, rfl⟩
        rw [← hcc] at hbv
        clear hcc hz h1 h2 hw hx hrun hkp haok
        gi_wp2_with (first | (refine ⟨trivial, ?_⟩; gi_at_call 75; refine (CallsIn.inRound l (callsIn_wide.2 hq)).mono ?_; rintro e W2 ⟨ao, cap, rfl, own2, b2⟩; clear hq; obtain ⟨e6, e7, y60, y61, y62, y70, f60, f61, f62, f70, q6, q7⟩ := res_cells b2 o6 o7; have e8 := (b2.block _ hbv.lt).trans hbv; have c8 := Boxed.cell e8; have f8 := Boxed.frozen e8) | (refine ⟨trivial, ?_⟩))
        exact read_bad HX.out hb hb' b2 e6 e7 (by omega) (Nat.le_refl _) (by omega)
      | some wd' =>
        have ownW := own_block own0 (fun g hg => by
          obtain rfl : ga = g := Option.some.inj hg
          exact old ga (by omega) (by omega) (by omega) (by omega))
        obtain ⟨rfl, hai, hac, hcell⟩ := hah.at_ ownW hw
        obtain ⟨n1, hn1⟩ : ∃ n1, n1 = 1 + R + V - a.i := ⟨_, rfl⟩
        obtain ⟨m1, hm1⟩ : ∃ m1, m1 = c - a.i := ⟨_, rfl⟩
        obtain ⟨ia, hia⟩ : ∃ ia, ia = a.i := ⟨_, rfl⟩
        have HI : Hid (ia = a.i ∧ n1 = 1 + R + V - a.i ∧ m1 = c - a.i ∧ a.i < 1 + R + V ∧ a.i < c) := ⟨hia, hn1, hm1, hai, hac⟩
        have hn1p : 0 < n1 := by omega
        have hm1p : n1 ≤ m1 := by omega
        have hn1i : (1 : Int) ≤ (n1 : Int) := by omega
        have hn0 : decide ((n1 : Int) = 0) = false := decide_eq_false (by omega)
        have hn0b : ((n1 : Int) == 0) = false := beq_false_of_ne (by omega)
        rw [← hn1, ← hm1, ← hia] at hbv
        rw [← hia] at hcell
        clear hn1 hm1 hia
        by_cases hww : wd = wd'
        · subst hww
          have hline := kpLine_take hx hw
          have hgl : ga < W.heap.size := by omega
          unfold strV at hcell
          have HTk : Hid (∀ (W2 : World) (ao : Option Addr) (cap : Nat), Below W.heap.size W W2 → W2.ownsRow W.heap.size 3 1 (.slice ao ns.length cap) ns.length (ints ns) → Calls Tryz.prog 76 #[.pointer (some ⟨w3.heap.size + 1, 0, none⟩), .string ⟨wd.toArray⟩, .slice ao ns.length cap] W2 fun e w' => (kpTake R a ns = none ∧ e = .returned (.bool false) ∧ w' = W2) ∨ (∃ a' vr' vw' us', kpTake R a ns = some a' ∧ e = .returned (.bool true) ∧ KpB w' W0.heap.size (w3.heap.size + 1) a'.t vr' vw' a'.rs us' a'.zs ∧ Tk W0.heap.size (w3.heap.size + 1) W2 w')) := fun W2 ao cap hb own => take_any ns _ wd W2 (hkp.below hb) haok hR hV hw (Joins.ownsRow_le own hbs) hnl
          cases hk : kpTake R a ns with
          | none =>
            have HTn : Hid (∀ (W2 : World) (ao : Option Addr) (cap : Nat), Below W.heap.size W W2 → W2.ownsRow W.heap.size 3 1 (.slice ao ns.length cap) ns.length (ints ns) → Calls Tryz.prog 76 #[.pointer (some ⟨w3.heap.size + 1, 0, none⟩), .string ⟨wd.toArray⟩, .slice ao ns.length cap] W2 fun e w' => e = .returned (.bool false) ∧ w' = W2) := fun W2 ao cap hb own => by
              refine (HTk.out W2 ao cap hb own).mono ?_
              rintro e w' (⟨_, h1, h2⟩ | ⟨a', _, _, _, h1, _⟩)
              · exact ⟨h1, h2⟩
              · rw [hk] at h1; cases h1
            have HX : Hid (kpRun R V KA.none ((pre ++ [x]).map (·.1)) = none) := by
              show _ = _
              rw [List.map_append]
              exact kpRun_bad hrun (hline.trans hk)
            clear hx hrun hkp haok hw hk hline HTk
            gi_wp2_with (first | (refine ⟨trivial, ?_⟩; gi_at_call 75; refine (CallsIn.inRound l (callsIn_wide.2 hq)).mono ?_; rintro e W2 ⟨ao, cap, rfl, own2, b2⟩; clear hq; obtain ⟨e6, e7, y60, y61, y62, y70, f60, f61, f62, f70, q6, q7⟩ := res_cells b2 o6 o7; have e8 := (b2.block _ hbv.lt).trans hbv; have c8 := Boxed.cell e8; have f8 := Boxed.frozen e8; have d8 := (b2.cell (p := ⟨ga, ia, none⟩) hgl).trans hcell) | (refine ⟨trivial, ?_⟩; gi_at_call 76; refine (CallsIn.inRound l (callsIn_wide.2 (HTn.out _ _ _ b2 own2))).mono ?_; rintro e w9 ⟨rfl, hw9⟩; subst w9) | (refine ⟨trivial, ?_⟩))
            exact read_bad HX.out hb hb' b2 e6 e7 (by omega) (Nat.le_refl _) (by omega)
          | some b' =>
            have HTy : Hid (∀ (W2 : World) (ao : Option Addr) (cap : Nat), Below W.heap.size W W2 → W2.ownsRow W.heap.size 3 1 (.slice ao ns.length cap) ns.length (ints ns) → Calls Tryz.prog 76 #[.pointer (some ⟨w3.heap.size + 1, 0, none⟩), .string ⟨wd.toArray⟩, .slice ao ns.length cap] W2 fun e w' => e = .returned (.bool true) ∧ ∃ vr' vw' us', KpB w' W0.heap.size (w3.heap.size + 1) b'.t vr' vw' b'.rs us' b'.zs ∧ Tk W0.heap.size (w3.heap.size + 1) W2 w') := fun W2 ao cap hb own => by
              refine (HTk.out W2 ao cap hb own).mono ?_
              rintro e w' (⟨h1, _⟩ | ⟨a', vr', vw', us', h1, h2, h3⟩)
              · rw [hk] at h1; cases h1
              · rw [hk] at h1
                obtain rfl := Option.some.inj h1
                exact ⟨h2, vr', vw', us', h3⟩
            obtain ⟨A, hA, HAD⟩ : ∃ A : Addr, (if m1 = 1 then some (⟨ga, ia, none⟩ : Addr) else some ⟨ga, ia + 1, none⟩) = some A ∧ Hid (m1 ≠ 1 → A = ⟨ga, ia + 1, none⟩) := by
              by_cases h1 : m1 = 1
              · exact ⟨⟨ga, ia, none⟩, by simp [h1], fun h => absurd h1 h⟩
              · exact ⟨⟨ga, ia + 1, none⟩, by simp [h1], fun _ => rfl⟩
            have HAH : Hid (AhdV ga c R V b'.i (.slice (some A) (n1 - 1) (m1 - 1))) := by
              obtain ⟨i1, i2, i3, i4, i5⟩ := HI.out
              have hbi' : b'.i = a.i + 1 := kpLine_i (hline.trans hk)
              rw [hbi']
              exact ⟨A, by rw [i2, i3]; congr 1 <;> omega, by omega, by omega, fun h => by rw [HAD.out (by omega), i1]⟩
            have HLn : Hid (kpLine R V a x.1 = some b') := hline.trans hk
            have HRn : Hid (kpRun R V KA.none (pre.map (·.1)) = some a) := hrun
            clear hx hrun hkp haok hw hk hline HTk
            gi_wp2_with (first | (refine ⟨trivial, ?_⟩; gi_at_call 75; refine (CallsIn.inRound l (callsIn_wide.2 hq)).mono ?_; rintro e W2 ⟨ao, cap, rfl, own2, b2⟩; clear hq; obtain ⟨e6, e7, y60, y61, y62, y70, f60, f61, f62, f70, q6, q7⟩ := res_cells b2 o6 o7; have e8 := (b2.block _ hbv.lt).trans hbv; have c8 := Boxed.cell e8; have f8 := Boxed.frozen e8; have d8 := (b2.cell (p := ⟨ga, ia, none⟩) hgl).trans hcell) | (refine ⟨trivial, ?_⟩; gi_at_call 76; refine (CallsIn.inRound l (callsIn_wide.2 (HTy.out _ _ _ b2 own2))).mono ?_; rintro e w9 ⟨rfl, vr', vw', us', hk9, tk9⟩; have e89 := (tk9.blk w3.heap.size (by omega) (by omega)).trans e8; have c89 := Boxed.cell e89; have f89 := Boxed.frozen e89) | (refine ⟨trivial, ?_⟩))
            obtain ⟨z1, z2, z3, z4, z5⟩ := read_more HRn.out HLn.out old hb hb' b2 hbs hk9 tk9 e89 HAH.out (by omega) (by omega) (by omega) (by omega) (by omega) (by omega) (by omega)
            exact ⟨z1, z2, ⟨by rw [List.map_append]; exact z3, z4, z5⟩⟩
        · have HX : Hid (kpRun R V KA.none ((pre ++ [x]).map (·.1)) = none) := by
            show _ = _
            rw [List.map_append]
            exact kpRun_bad hrun (kpLine_word hx (by rw [hw]; exact fun e => hww (Option.some.inj e).symm))
          have hgl : ga < W.heap.size := by omega
          unfold strV at hcell
          clear hx hrun hkp haok hw
          gi_wp2_with (first | (refine ⟨trivial, ?_⟩; gi_at_call 75; refine (CallsIn.inRound l (callsIn_wide.2 hq)).mono ?_; rintro e W2 ⟨ao, cap, rfl, own2, b2⟩; clear hq; obtain ⟨e6, e7, y60, y61, y62, y70, f60, f61, f62, f70, q6, q7⟩ := res_cells b2 o6 o7; have e8 := (b2.block _ hbv.lt).trans hbv; have c8 := Boxed.cell e8; have f8 := Boxed.frozen e8; have d8 := (b2.cell (p := ⟨ga, ia, none⟩) hgl).trans hcell) | (refine ⟨trivial, ?_⟩))
          exact read_bad HX.out hb hb' b2 e6 e7 (by omega) (Nat.le_refl _) (by omega)
  case done =>
    rintro D xs W hD hxs ⟨⟨⟨a, vr, vw, va, us, hrun, hkp, hbv, hah⟩, old⟩, hb, hb'⟩ hK
    have o6 := (old w.heap.size (by omega) (by omega) (by omega) (by omega)).trans z60
    have o7 := (old (w.heap.size + 1) (by omega) (by omega) (by omega) (by omega)).trans z70
    obtain ⟨e6, e7, y60, y61, y62, y70, f60, f61, f62, f70, q6, q7⟩ := res_cells (Below.refl W.heap.size W) o6 o7
    rw [hxs] at hrun
    obtain ⟨ra, rc, rfl⟩ := sl_form hkp.rr
    obtain ⟨wa, wc, rfl⟩ := sl_form hkp.wr
    obtain ⟨A, rfl, h1, h2, _⟩ := hah
    have c0 := hkp.c0
    have c1 := hkp.c1
    have c2 := hkp.c2
    have c8 := hbv.cell
    have HKp : Hid (KpB W W0.heap.size (w3.heap.size + 1) a.t (.slice ra a.rs.length rc) (.slice wa us.length wc) a.rs us a.zs) := hkp
    have HRn : Hid (kpRun R V KA.none (linesB s.data.toList) = some a) := hrun
    have hbs := hkp.le
    by_cases hi : a.i = 1 + R + V
    · have HI : Hid (a.i = 1 + R + V) := hi
      rw [show 1 + R + V - a.i = 0 by omega] at c8
      clear hkp hrun hbv hi h1 h2
      gi_wp2
      gi_region
      gi_wp2
      obtain ⟨pK, pb, p6, p7, pk, ps⟩ := read_end true HKp.out hb hb' o6 o7 hK (by omega) (Nat.le_refl _) (by omega) (by omega) (by omega) (by omega) (by omega) hD
      generalize (((((W.setCell ⟨w.heap.size, 0, none⟩ (.int .i64 a.t)).setCell ⟨w.heap.size, 1, none⟩ (.slice ra a.rs.length rc)).setCell ⟨w.heap.size, 2, none⟩ (.slice wa us.length wc)).setCell ⟨w.heap.size + 1, 0, none⟩ (.bool true))).drew = W4 at pK pb p6 p7 pk ps ⊢
      have u6 := ((grownBy_putObj' W4 D (.deferred none)).block w.heap.size (Array.getElem?_eq_some_iff.1 p6).1 (fun e => by cases e; omega)).trans p6
      have u7 := ((grownBy_putObj' W4 D (.deferred none)).block (w.heap.size + 1) (Array.getElem?_eq_some_iff.1 p7).1 (fun e => by cases e; omega)).trans p7
      refine ⟨by simp, .inl ⟨_, _, rfl, run_takeDeferred pK, ?_⟩⟩
      refine ⟨.tuple #[.agg #[.int .i64 a.t, .slice ra a.rs.length rc, .slice wa us.length wc], .bool true], ?_, pb.trans (belowK_b (w := w) (Nat.le_refl _) W4 D _ _ (by omega) pK rfl rfl), Or.inl ⟨a, _, _, us, W0.heap.size, w3.heap.size + 1, HRn.out, HI.out, rfl, by omega, kp_put pk pK hD⟩⟩
      simp [results, Tryz.results43, go_sem, World.cell?, u6, u7]
    · obtain ⟨n1, hn1⟩ : ∃ n1, n1 = 1 + R + V - a.i := ⟨_, rfl⟩
      have hn0b : ((n1 : Int) == 0) = false := beq_false_of_ne (by omega)
      have HI : Hid (a.i ≠ 1 + R + V) := hi
      rw [← hn1] at c8
      clear hkp hrun hbv hi h1 h2 hn1
      gi_wp2
      gi_region
      gi_wp2
      obtain ⟨pK, pb, p6, p7, pk, ps⟩ := read_end false HKp.out hb hb' o6 o7 hK (by omega) (Nat.le_refl _) (by omega) (by omega) (by omega) (by omega) (by omega) hD
      generalize (((((W.setCell ⟨w.heap.size, 0, none⟩ (.int .i64 a.t)).setCell ⟨w.heap.size, 1, none⟩ (.slice ra a.rs.length rc)).setCell ⟨w.heap.size, 2, none⟩ (.slice wa us.length wc)).setCell ⟨w.heap.size + 1, 0, none⟩ (.bool false))).drew = W4 at pK pb p6 p7 pk ps ⊢
      have u6 := ((grownBy_putObj' W4 D (.deferred none)).block w.heap.size (Array.getElem?_eq_some_iff.1 p6).1 (fun e => by cases e; omega)).trans p6
      have u7 := ((grownBy_putObj' W4 D (.deferred none)).block (w.heap.size + 1) (Array.getElem?_eq_some_iff.1 p7).1 (fun e => by cases e; omega)).trans p7
      refine ⟨by simp, .inl ⟨_, _, rfl, run_takeDeferred pK, ?_⟩⟩
      refine ⟨.tuple #[.agg #[.int .i64 a.t, .slice ra a.rs.length rc, .slice wa us.length wc], .bool false], ?_, pb.trans (belowK_b (w := w) (Nat.le_refl _) W4 D _ _ (by omega) pK rfl rfl), Or.inr ⟨fun a2 h => by rw [HRn.out] at h; cases h; exact HI.out, _, _, _, _, _, _, _, rfl⟩⟩
      simp [results, Tryz.results43, go_sem, World.cell?, u6, u7]
  case stop =>
    rintro D pre W hD hpre ⟨⟨hk, x6, x7⟩, hb, hb'⟩ hK
    have HN : Hid (kpRun R V KA.none (linesB s.data.toList) = none) := by
      obtain ⟨r, hr⟩ := hpre
      show _ = _
      rw [← hr]
      exact kpRun_badApp hk
    have hK2 := run_takeDeferred (P := Tryz.prog) hK
    have u6 := ((grownBy_putObj' W D (.deferred none)).block w.heap.size (Array.getElem?_eq_some_iff.1 x6).1 (fun e => by cases e; omega)).trans x6
    have u7 := ((grownBy_putObj' W D (.deferred none)).block (w.heap.size + 1) (Array.getElem?_eq_some_iff.1 x7).1 (fun e => by cases e; omega)).trans x7
    clear hpre hk
    gi_wp2
    refine ⟨by simp, .inl ⟨_, _, rfl, run_takeDeferred hK, ?_⟩⟩
    refine ⟨.tuple #[.agg #[.int .i64 0, .slice none 0 0, .slice none 0 0], .bool false], ?_, ?_, Or.inr ⟨fun a h => (by rw [HN.out] at h; cases h), _, _, _, _, _, _, _, rfl⟩⟩
    · simp [results, Tryz.results43, go_sem, World.cell?, u6, u7]
    · exact hb.trans (belowK_b (w := w) (Nat.le_refl _) W D _ _ (by omega) hK rfl rfl)
end Go.Proofs.YtajfgmlockjmhaiGreatDoor
