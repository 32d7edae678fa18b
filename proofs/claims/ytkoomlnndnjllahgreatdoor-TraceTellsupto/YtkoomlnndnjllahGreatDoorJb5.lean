/-
  CutSfx, FourB, LinesL, TcSplit: joined into one text.
-/
import Derived.Test.YtkoomlnndnjllahGreatDoorSeqs
import Derived.Deep.CutRange
namespace Go.Proofs.YtkoomlnndnjllahGreatDoor
open Go.RowKit

theorem suffix_yes7 (s : ByteArray) (u : List UInt8) (w : World) (hs : s.data.toList = u ++ [10]) (hl : s.size ≤ 140737488355328) :
    Calls Tryz.prog 73 #[.string s, .string ⟨#[10]⟩] w fun e w' => e = .returned (.tuple #[.string ⟨u.toArray⟩, .bool true]) ∧ w' = w := by
  have h := Tryz.strings_CutSuffix s ⟨#[10]⟩ w (by omega)
  have e1 : Lib.hasSuffix s.data.toList [10] = true := by rw [hs]; simp [Lib.hasSuffix]
  have e2 : Lib.trimSuffix s.data.toList [10] = u := by rw [hs]; simp [Lib.trimSuffix, Lib.hasSuffix]
  simp only at h
  rw [show ([10] : List UInt8) = (#[10] : Array UInt8).toList from rfl] at e1 e2
  rw [e1, e2] at h
  exact h
theorem suffix_yes (s : ByteArray) (u : List UInt8) (w : World) (hs : s.data.toList = u ++ [10]) (hl : s.size ≤ 1099511627776) :
    Calls Tryz.prog 73 #[.string s, .string ⟨#[10]⟩] w fun e w' => e = .returned (.tuple #[.string ⟨u.toArray⟩, .bool true]) ∧ w' = w := suffix_yes7 s u w hs (by omega)
theorem suffix_no (s : ByteArray) (w : World) (hs : ∀ u, s.data.toList ≠ u ++ [10]) (hl : s.size ≤ 1099511627776) :
    Calls Tryz.prog 73 #[.string s, .string ⟨#[10]⟩] w fun e w' => (∃ t, e = .returned (.tuple #[.string t, .bool false])) ∧ w' = w := by
  refine (Tryz.strings_CutSuffix s ⟨#[10]⟩ w (by omega)).mono ?_
  rintro e w' ⟨rfl, rfl⟩
  have e1 : Lib.hasSuffix s.data.toList [10] = false := by
    rw [Bool.eq_false_iff]
    intro h
    have : [10] <:+ s.data.toList := by simpa [Lib.hasSuffix] using h
    obtain ⟨u, hu⟩ := this
    exact hs u hu.symm
  rw [show ([10] : List UInt8) = (#[10] : Array UInt8).toList from rfl] at e1
  exact ⟨⟨_, by rw [e1]⟩, rfl⟩
end Go.Proofs.YtkoomlnndnjllahGreatDoor
namespace Go.Proofs.YtkoomlnndnjllahGreatDoor
open Go.RowKit Go.Shelf

/-- The four boxes that words.Read lays at its head, in a later world. -/
theorem four_boxes {w w2 : World} {t0 t1 t2 t3 : TypeId} {v0 v1 v2 v3 : Value}
    (b2 : Below ((((w.alloc (.cells #[v0] t0)).alloc (.cells #[v1] t1)).alloc (.cells #[v2] t2)).alloc (.cells #[v3] t3)).heap.size ((((w.alloc (.cells #[v0] t0)).alloc (.cells #[v1] t1)).alloc (.cells #[v2] t2)).alloc (.cells #[v3] t3)) w2) :
    Boxed w2 w.heap.size t0 v0 ∧ Boxed w2 (w.heap.size + 1) t1 v1 ∧ Boxed w2 (w.heap.size + 1 + 1) t2 v2 ∧ Boxed w2 (w.heap.size + 1 + 1 + 1) t3 v3 ∧ Below w.heap.size w w2 ∧ w.heap.size + 4 ≤ w2.heap.size := by
  have h0 := Boxed.new w t0 v0
  have h1 := Boxed.new (w.alloc (.cells #[v0] t0)) t1 v1
  have h2 := Boxed.new ((w.alloc (.cells #[v0] t0)).alloc (.cells #[v1] t1)) t2 v2
  have h3 := Boxed.new (((w.alloc (.cells #[v0] t0)).alloc (.cells #[v1] t1)).alloc (.cells #[v2] t2)) t3 v3
  simp only [World.size_alloc] at h1 h2 h3
  have hs := b2.size
  simp only [World.size_alloc] at hs
  refine ⟨(b2.block _ (by simp; omega)).trans (((h0.alloc _).alloc _).alloc _), (b2.block _ (by simp)).trans ((h1.alloc _).alloc _), (b2.block _ (by simp)).trans (h2.alloc _), (b2.block _ (by simp)).trans h3, ?_, by omega⟩
  exact (((((Below.refl _ w).alloc (Nat.le_refl _) _).alloc (by simp) _).alloc (by simp; omega) _).alloc (by simp; omega) _).trans (b2.mono (by simp; omega))
end Go.Proofs.YtkoomlnndnjllahGreatDoor
namespace Go.Proofs.YtkoomlnndnjllahGreatDoor
open Go.RowKit Go.Shelf

theorem lines_any (s : ByteArray) (w : World) :
    Calls Tryz.prog 42 #[.string s] w fun e w' => e = .returned (.func (.func 71) #[] #[.pointer (some ⟨w.heap.size, 0, none⟩)]) ∧ w' = w.alloc (.cells #[.string s] 9) := by
  go_enter Tryz.func42, Tryz.ntmps42
  go_wp2
  go_ret
  exact ⟨rfl, rfl⟩
end Go.Proofs.YtkoomlnndnjllahGreatDoor
namespace Go.Proofs.YtkoomlnndnjllahGreatDoor
open Go.RowKit

/-- A row of texts that is being laid. -/
def IxT (w : World) (g n : Nat) (ps : List ByteArray) : Prop := (∀ i, i < n → w.frozen? ⟨g, i, none⟩ = false ∧ ∃ y, w.cell? ⟨g, i, none⟩ = some y) ∧ ∀ (i : Nat) x, ps[i]? = some x → w.cell? ⟨g, i, none⟩ = some (.string x)
theorem IxT.set {w : World} {g n : Nat} {ps : List ByteArray} (h : IxT w g n ps) (x : ByteArray) (hk : ps.length < n) : IxT (w.setCell ⟨g, ps.length, none⟩ (.string x)) g n (ps ++ [x]) := by
  have hc : ∀ i, i ≠ ps.length → (w.setCell ⟨g, ps.length, none⟩ (.string x)).cell? ⟨g, i, none⟩ = w.cell? ⟨g, i, none⟩ := fun i hi => World.cell?_setCell_other _ _ _ _ (by intro e; injection e with _ e2; omega)
  have hs : (w.setCell ⟨g, ps.length, none⟩ (.string x)).cell? ⟨g, ps.length, none⟩ = some (.string x) := by
    obtain ⟨_, y, hy⟩ := h.1 _ hk
    simp [go_sem, hy]
  refine ⟨fun i hi => ⟨(World.frozen?_setCell _ _ _ _).trans (h.1 i hi).1, ?_⟩, fun i y hy => ?_⟩
  · by_cases he : i = ps.length
    · subst he; exact ⟨_, hs⟩
    · rw [hc i he]; exact (h.1 i hi).2
  · by_cases he : i = ps.length
    · subst he
      rw [List.getElem?_append_right (Nat.le_refl _), Nat.sub_self] at hy
      simp at hy
      subst hy
      exact hs
    · have hi : i < ps.length := by
        have := (List.getElem?_eq_some_iff.1 hy).1
        rw [List.length_append, List.length_singleton] at this
        omega
      rw [hc i he]
      rw [List.getElem?_append_left hi] at hy
      exact h.2 i y hy
/-- The list that a text is. -/
def bl (x : ByteArray) : List UInt8 := x.data.toList
theorem ixt_new (W : World) (n : Nat) : IxT (W.alloc (.cells (madeCells #[.string ByteArray.empty] n) 9)) W.heap.size n [] := by
  have hN := World.alloc_heap_new W (.cells (madeCells #[.string ByteArray.empty] n) 9)
  generalize W.alloc (.cells (madeCells #[.string ByteArray.empty] n) 9) = W2 at hN ⊢
  refine ⟨fun i hi => ⟨?_, .string ByteArray.empty, ?_⟩, fun i x hx => by simp at hx⟩
  · simp [World.frozen?, hN]
  · simp [World.cell?, hN, madeCells, hi, Nat.mod_one]
theorem made_strs (n : Nat) (hn : n ≤ 5) (W : World) : (Instr.makeSlice 97 (.int .i64 n) (.int .i64 n)).run Tryz.prog W = .ok (.slice (some ⟨W.heap.size, 0, none⟩) n n) (W.alloc (.cells (madeCells #[.string ByteArray.empty] n) 9)) := by
  obtain ⟨i, hi, hz⟩ : ∃ i, Tryz.prog.info? 9 = some i ∧ (i.zero, i.size, i.bytes) = (some (.string ByteArray.empty), 1, 16) := by
    have : (Tryz.prog.info? 9).map (fun i => (i.zero, i.size, i.bytes)) = some (some (.string ByteArray.empty), 1, 16) := by kernel_rfl
    cases hq : Tryz.prog.info? 9 with
    | none => rw [hq] at this; cases this
    | some i => rw [hq] at this; exact ⟨i, rfl, Option.some.inj this⟩
  simp only [Prod.mk.injEq] at hz
  obtain ⟨hz1, hz2, hz3⟩ := hz
  have := run_make (P := Tryz.prog) W 97 9 i _ (by kernel_rfl) hi hz1 .i64 .i64 n n (by omega) (Int.le_refl _) (by rw [hz3]; omega) (by omega)
  rw [hz2] at this
  simpa [Value.cells] using this
/-- What SplitN at a blank, of at most five, gives: all pieces, or five of at least so many. -/
def SplQ (s : List UInt8) (ps : List (List UInt8)) : Prop := (ps.length ≤ 4 ∧ cutB 32 s = ps) ∨ (ps.length = 5 ∧ 5 ≤ (cutB 32 s).length)
theorem cut_none {s : List UInt8} (h : (32 : UInt8) ∉ s) : cutB 32 s = [s] := by
  have := cutGo_none 32 s [] h
  rwa [List.nil_append] at this
theorem splq_none {s r : List UInt8} {ps : List (List UInt8)} (h : cutB 32 s = ps ++ cutB 32 r) (hr : (32 : UInt8) ∉ r) (hl : ps.length ≤ 3) : SplQ s (ps ++ [r]) := by
  rw [cut_none hr] at h
  exact Or.inl ⟨by simp; omega, h⟩
theorem splq_full {s r : List UInt8} {ps : List (List UInt8)} (h : cutB 32 s = ps ++ cutB 32 r) (hl : ps.length = 4) : SplQ s (ps ++ [r]) := by
  have := (cutGo_len 32 r []).1
  refine Or.inr ⟨by simp; omega, ?_⟩
  rw [h, List.length_append]
  unfold cutB
  omega
theorem idx_no {r : List UInt8} (h : (32 : UInt8) ∉ r) : Lib.indexByte r 32 = -1 := by
  rcases idx_cases 32 r with ⟨_, h1⟩ | ⟨u, v, h1, _, _⟩
  · exact h1
  · exact absurd (by rw [h1]; simp) h
theorem bl_take {r : ByteArray} {u v : List UInt8} (h : bl r = u ++ 32 :: v) : bl (r.extract 0 u.length) = u := by
  unfold bl at h ⊢
  rw [ext_eq, h]
  simp
theorem bl_drop {r : ByteArray} {u v : List UInt8} (h : bl r = u ++ 32 :: v) : bl (r.extract (u.length + 1) r.size) = v := by
  have hs : r.data.toList.length = r.size := by simp
  unfold bl at h ⊢
  rw [ext_eq, ← hs, List.take_length, h, drop_mid]
set_option maxRecDepth 100000 in
set_option maxHeartbeats 4000000 in
theorem gensplit_any (s : ByteArray) (w : World) (hl : s.size ≤ 140737488355328) :
    Calls Tryz.prog 103 #[.string s, .string ⟨#[32]⟩, .int .i64 0, .int .i64 5] w fun e w' => ∃ (g : Nat) (ps : List ByteArray) (cap : Nat), e = .returned (.slice (some ⟨g, 0, none⟩) ps.length cap) ∧ SplQ (bl s) (ps.map bl) ∧ g < w'.heap.size ∧ (∀ (i : Nat) x, ps[i]? = some x → w'.cell? ⟨g, i, none⟩ = some (.string x)) ∧ Below w.heap.size w w' := by
  have hsl : s.data.toList.length = s.size := by simp
  obtain ⟨N, hN⟩ : ∃ N : Nat, N = min 5 (s.size + 1) := ⟨_, rfl⟩
  have hN5 : N ≤ 5 := by omega
  have hN1 : 1 ≤ N := by omega
  have hmk := made_strs N hN5
  have hmin : min (5 : Int) ((s.size : Int) + 1) = N := by omega
  have HS : Hid (N = min 5 (s.size + 1)) := hN
  clear hN
  go_enter Tryz.func103, Tryz.ntmps103
  go_wp2_with fail
  clear hmk hmin
  have HI := ixt_new w N
  generalize hW : w.alloc (.cells (madeCells #[.string ByteArray.empty] N) 9) = w2 at HI ⊢
  have b2 : Below w.heap.size w w2 := by rw [← hW]; exact (Below.refl _ _).alloc (Nat.le_refl _) _
  have s2 : w.heap.size < w2.heap.size := by rw [← hW]; simp
  have HI2 : Hid (IxT w2 w.heap.size N []) := HI
  clear hW HI
  go_loopw [0, 10] (fun s0 i wr => ∃ (ps : List ByteArray) (r : ByteArray), s0 = .string r ∧ i = .int .i64 ps.length ∧ Hid (cutB 32 (bl s) = ps.map bl ++ cutB 32 (bl r)) ∧ ps.length + r.size ≤ s.size ∧ ps.length + 1 ≤ N ∧ Hid (IxT wr w.heap.size N ps) ∧ Below w.heap.size w wr ∧ w.heap.size < wr.heap.size) (fun _ i _ => 5 - (intOf i).toNat)
  case atStart => exact ⟨[], s, rfl, rfl, rfl, by simp, by simpa using hN1, HI2, b2, s2⟩
  case round =>
    clear HI2 b2 s2
    obtain ⟨ps, r, rfl, rfl, HC, hlen, hpn, HI, hb, hsz⟩ := hrel
    obtain ⟨k, hk⟩ : ∃ k, ps.length = k := ⟨_, rfl⟩
    have HK : Hid (ps.length = k) := hk
    rw [hk] at hlen hpn ⊢
    have hkN : k < N := by omega
    have hf := (HI.out.1 k hkN).1
    obtain ⟨y, hy⟩ := (HI.out.1 k hkN).2
    have hend : ∀ ps2 : List (List UInt8), SplQ (bl s) (ps.map bl ++ [bl r]) → Hid (SplQ (bl s) ((ps ++ [r]).map bl)) := fun _ h => by
      show SplQ _ _
      rw [List.map_append]
      exact h
    have I8 : Hid (∀ (i : Nat) x, (ps ++ [r])[i]? = some x → (wr.setCell ⟨w.heap.size, k, none⟩ (.string r)).cell? ⟨w.heap.size, i, none⟩ = some (.string x)) := by
      have := (HI.out.set r (by rw [hk]; exact hkN)).2
      rw [hk] at this
      exact this
    have B8 : Below w.heap.size w (wr.setCell ⟨w.heap.size, k, none⟩ (.string r)) := hb.setCell (p := ⟨w.heap.size, k, none⟩) (Nat.le_refl _) _
    have S8 : w.heap.size < (wr.setCell ⟨w.heap.size, k, none⟩ (.string r)).heap.size := by simpa [World.setCell] using hsz
    have HL : Hid ((ps ++ [r]).length = k + 1) := by show _ = _; rw [List.length_append, hk]; rfl
    by_cases hlast : k + 1 = N
    · have d0 : decide ((k : Int) < (N : Int) - 1) = false := decide_eq_false (by omega)
      have HQ : Hid (SplQ (bl s) ((ps ++ [r]).map bl)) := by
        apply hend []
        by_cases h4 : k = 4
        · exact splq_full HC.out (by rw [List.length_map, hk, h4])
        · have hr0 : r.size = 0 := by have := HS.out; omega
          refine splq_none HC.out ?_ (by rw [List.length_map]; omega)
          have : r.data.toList.length = 0 := by rw [show r.data.toList.length = r.size by simp, hr0]
          unfold bl
          rw [List.eq_nil_of_length_eq_zero this]
          simp
      clear HC HI HS hend hlast hk
      go_wp2
      go_ret
      exact ⟨_, ps ++ [r], _, by rw [HL.out]; rfl, HQ.out, S8, I8.out, B8⟩
    · have d0 : decide ((k : Int) < (N : Int) - 1) = true := decide_eq_true (by omega)
      by_cases hm : (32 : UInt8) ∈ bl r
      · rcases idx_cases 32 (bl r) with ⟨h1, _⟩ | ⟨u, v, huv, hu, hix⟩
        · exact absurd hm h1
        · have hq := Tryz.strings_Index_one r 32 wr
          rw [show Lib.indexByte r.data.toList 32 = (u.length : Int) from hix] at hq
          have hrs : r.size = u.length + 1 + v.length := by
            have h1 : r.data.toList.length = r.size := by simp
            have h2 : (bl r).length = r.size := h1
            rw [← h2, huv]; simp; omega
          have HU : Hid (bl (r.extract 0 u.length) = u) := bl_take huv
          have HV : Hid (bl (r.extract (u.length + 1) r.size) = v) := bl_drop huv
          have hvs : (r.extract (u.length + 1) r.size).size = v.length := by
            have h1 : (r.extract (u.length + 1) r.size).data.toList.length = (r.extract (u.length + 1) r.size).size := by simp
            rw [← h1]
            exact congrArg List.length HV.out
          have HC2 : Hid (cutB 32 (bl s) = (ps ++ [r.extract 0 u.length]).map bl ++ cutB 32 (bl (r.extract (u.length + 1) r.size))) := by
            show _ = _
            have h1 : cutB 32 (bl r) = u :: cutB 32 v := by
              rw [huv]
              exact cutGo_at 32 u [] v hu
            rw [HC.out, h1, List.map_append, List.append_assoc, HV.out]
            simp [HU.out]
          have I9 : Hid (IxT (wr.setCell ⟨w.heap.size, k, none⟩ (.string (r.extract 0 u.length))) w.heap.size N (ps ++ [r.extract 0 u.length])) := by
            have := HI.out.set (r.extract 0 u.length) (by rw [hk]; exact hkN)
            rw [hk] at this
            exact this
          have B9 : Below w.heap.size w (wr.setCell ⟨w.heap.size, k, none⟩ (.string (r.extract 0 u.length))) := hb.setCell (p := ⟨w.heap.size, k, none⟩) (Nat.le_refl _) _
          have S9 : w.heap.size < (wr.setCell ⟨w.heap.size, k, none⟩ (.string (r.extract 0 u.length))).heap.size := by simpa [World.setCell] using hsz
          have hlen2 : (k : Nat) + 1 + (r.extract (u.length + 1) r.size).size ≤ s.size := by omega
          have HL2 : Hid ((ps ++ [r.extract 0 u.length]).length = k + 1) := by show _ = _; rw [List.length_append, hk]; rfl
          obtain ⟨U, hU⟩ : ∃ U, u.length = U := ⟨_, rfl⟩
          rw [hU] at hq hrs HC2 I9 B9 S9 hlen2 HL2
          have hub : (U : Int) < r.size := by omega
          have hub2 : U + 1 ≤ r.size := by omega
          have hub3 : (U : Int) + 1 ≤ r.size := by omega
          have hkn2 : k + 1 + 1 ≤ N := by omega
          clear HC HI HS hend hlast hk HU HV hvs hm huv hu hix hU I8 B8 S8 HL hrs
          go_wp2_with (go_at_call 132; refine hq.mono ?_; rintro e wx ⟨rfl, hwx⟩; obtain rfl := hwx.symm)
          go_roundw
          case rel => exact ⟨ps ++ [r.extract 0 U], r.extract (U + 1) r.size, rfl, by rw [HL2.out]; go_num, HC2, by rw [HL2.out]; exact hlen2, by rw [HL2.out]; omega, I9, B9, S9⟩
          case measure => simp [intOf]; omega
      · have hq := Tryz.strings_Index_one r 32 wr
        rw [show Lib.indexByte r.data.toList 32 = -1 from idx_no hm] at hq
        have HQ : Hid (SplQ (bl s) ((ps ++ [r]).map bl)) := hend [] (splq_none HC.out hm (by rw [List.length_map]; omega))
        clear HC HI HS hend hlast hk hm
        go_wp2_with (go_at_call 132; refine hq.mono ?_; rintro e wx ⟨rfl, hwx⟩; obtain rfl := hwx.symm)
        go_ret
        exact ⟨_, ps ++ [r], _, by rw [HL.out]; rfl, HQ.out, S8, I8.out, B8⟩
set_option maxRecDepth 100000 in
set_option maxHeartbeats 1000000 in
theorem splitn_any (s : ByteArray) (w : World) (hl : s.size ≤ 140737488355328) :
    Calls Tryz.prog 74 #[.string s, .string ⟨#[32]⟩, .int .i64 5] w fun e w' => ∃ (g : Nat) (ps : List ByteArray) (cap : Nat), e = .returned (.slice (some ⟨g, 0, none⟩) ps.length cap) ∧ SplQ (bl s) (ps.map bl) ∧ g < w'.heap.size ∧ (∀ (i : Nat) x, ps[i]? = some x → w'.cell? ⟨g, i, none⟩ = some (.string x)) ∧ Below w.heap.size w w' := by
  have q := gensplit_any s w hl
  clear hl
  go_enter Tryz.func74, Tryz.ntmps74
  go_wp2_with (go_at_call 103; refine q.mono ?_; rintro e w1 ⟨g, ps, cap, rfl, h1, h2, h3, h4⟩; clear q)
  go_ret
  exact ⟨_, _, _, rfl, h1, h2, h3, h4⟩
end Go.Proofs.YtkoomlnndnjllahGreatDoor
