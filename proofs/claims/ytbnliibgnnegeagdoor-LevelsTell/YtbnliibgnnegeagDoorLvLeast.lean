/-
  Package levels: Least.
-/
import Derived.Test.YtbnliibgnnegeagDoorLevCL
import Derived.Test.YtbnliibgnnegeagDoorLvAh
import Derived.Test.YtbnliibgnnegeagDoorPushL
import Derived.Deep.CutRange
import Derived.BigQuiet
namespace Go.Proofs.YtbnliibgnnegeagDoor
open Go.RowKit

/-- Five numbers in a block. -/
def I5 (w : World) (b : Nat) (o : Nat → Nat) : Prop := Sl5 w b (fun i => .int .i64 (o i : Nat))
theorem I5.set {w : World} {b : Nat} {l : List W4} {o : Nat → Nat} (h : I5 w b o) (x : W4) {t : Nat} (ht : t < 5) (hx : x.2.1.toNat = t) : I5 (w.setCell ⟨b, t, none⟩ (.int .i64 ((max (o t) (o x.1.toNat + rise l x) : Nat) : Int))) b (lvS l o x) := by
  subst hx
  have := Sl5.set h ht (.int .i64 ((max (o x.2.1.toNat) (o x.1.toNat + rise l x) : Nat) : Int))
  intro i hi
  have h2 := this i hi
  refine ⟨h2.1.trans ?_, h2.2⟩
  unfold lvS
  by_cases e : i = x.2.1.toNat
  · subst e
    simp
  · simp [e]
theorem I5.stp {w : World} {b : Nat} {o : Nat → Nat} {l : List W4} (h : I5 w b o) (hb : b < w.heap.size) (ho : ∀ r, r < 5 → o r = lev l r) : Stp w (.slice (some ⟨b, 0, none⟩) 5 5) (levs l) := by
  refine Or.inr ⟨b, 0, 5, rfl, hb, fun i x hx => ?_⟩
  have hi : i < 5 := by
    have := (List.getElem?_eq_some_iff.1 hx).1
    simpa [levs] using this
  rw [Nat.zero_add, (h i hi).1]
  simp only [ho i hi]
  have hx' : [(lev l 0 : Int), (lev l 1 : Int), (lev l 2 : Int), (lev l 3 : Int), (lev l 4 : Int)][i]? = some x := hx
  clear hx ho h
  generalize lev l = f at hx' ⊢
  obtain rfl | rfl | rfl | rfl | rfl : i = 0 ∨ i = 1 ∨ i = 2 ∨ i = 3 ∨ i = 4 := by omega
  all_goals (simp only [List.getElem?_cons_zero, List.getElem?_cons_succ, Option.some.injEq] at hx'; rw [hx'])
theorem five_made5 {w : World} {base b : Nat} (h : w.ownsRow base 3 1 (.slice (some ⟨b, 0, none⟩) 5 5) 5 (madeCells (Value.int .i64 0).cells (5 * 1)).toList) : I5 w b (fun _ => 0) := fun i hi => by
  have hc := fun j hj => h.cellAt j hj
  have hf := fun j => h.frozenAt j
  refine ⟨?_, hf i⟩
  rw [hc i (by omega)]
  obtain rfl | rfl | rfl | rfl | rfl : i = 0 ∨ i = 1 ∨ i = 2 ∨ i = 3 ∨ i = 4 := by omega
  all_goals simp [madeCells, Value.cells]
theorem infoI5 : (Tryd.prog.info? 3).map (fun i => (i.zero, i.size, i.bytes)) = some (some (.int .i64 0), 1, 8) := by kernel_rfl
set_option maxRecDepth 100000 in
set_option maxHeartbeats 4000000 in
theorem lvleast_bad (l : List W4) (v : Value) (w : World) (hl : Wrs w v l) (h : (wschk l).2 ≠ 0) :
    Calls Tryd.prog 11 #[v] w fun e w' => e = .returned (.tuple #[.slice none 0 0, .iface 53 (.int .i64 (wschk l).2)]) ∧ Below w.heap.size w w' := by
  have hq := lvall_bad l v w hl h
  obtain ⟨q, hq'⟩ : ∃ q, q = (wschk l).2 := ⟨_, rfl⟩
  rw [← hq'] at hq ⊢
  clear hq' h
  obtain ⟨ao, cap, rfl⟩ := hl.form
  clear hl
  go_enter Tryd.func11, Tryd.ntmps11
  go_wp2_with (go_at_call 16; refine hq.mono ?_; rintro e w1 ⟨rfl, b1⟩; clear hq)
  go_ret2
  exact ⟨rfl, b1.alloc b1.size _⟩
set_option maxRecDepth 100000 in
set_option maxHeartbeats 8000000 in
theorem lvleast_ok (l : List W4) (v : Value) (w : World) (hl : Wrs w v l) (h : (wschk l).2 = 0) :
    Calls Tryd.prog 11 #[v] w fun e w' => ∃ u, e = .returned (.tuple #[u, .nilIface]) ∧ Stp w' u (levs l) ∧ Below w.heap.size w w' := by
  have hq := lvall_ok l v w hl h
  have hkk := wschk_ok h
  have hlen := hkk.1
  have HOK : Hid (∀ x ∈ l, w4chk x = 0) := hkk.2
  have HL : Hid (Wrs w v l) := hl
  obtain ⟨ii, hi, hz0, hz1, hz2⟩ := info_parts infoI5
  obtain ⟨ao, cap, rfl⟩ := hl.form
  clear hl h hkk
  go_enter Tryd.func11, Tryd.ntmps11
  go_upto_region 4 with (go_at_call 16; refine hq.mono ?_; rintro e w1 ⟨u0, u1, u2, u3, u4, rfl, r0, r1, r2, r3, r4, b1⟩; clear hq; have hnew := ahs_new (t := 49) r0 r1 r2 r3 r4; obtain ⟨g0, e0, rfl, _⟩ := r0; obtain ⟨g1, e1, rfl, _⟩ := r1; obtain ⟨g2, e2, rfl, _⟩ := r2; obtain ⟨g3, e3, rfl, _⟩ := r3; obtain ⟨g4, e4, rfl, _⟩ := r4)
  have HB : Hid (Below w.heap.size w (w1.alloc (.cells #[.slice (some ⟨g0, 0, none⟩) (ahd l 0 5).length e0, .slice (some ⟨g1, 0, none⟩) (ahd l 1 5).length e1, .slice (some ⟨g2, 0, none⟩) (ahd l 2 5).length e2, .slice (some ⟨g3, 0, none⟩) (ahd l 3 5).length e3, .slice (some ⟨g4, 0, none⟩) (ahd l 4 5).length e4] 49))) := b1.alloc b1.size _
  have HA : Hid (Ahs (w1.alloc (.cells #[.slice (some ⟨g0, 0, none⟩) (ahd l 0 5).length e0, .slice (some ⟨g1, 0, none⟩) (ahd l 1 5).length e1, .slice (some ⟨g2, 0, none⟩) (ahd l 2 5).length e2, .slice (some ⟨g3, 0, none⟩) (ahd l 3 5).length e3, .slice (some ⟨g4, 0, none⟩) (ahd l 4 5).length e4] 49)) l w1.heap.size) := hnew
  clear hnew b1
  generalize w1.alloc (.cells #[.slice (some ⟨g0, 0, none⟩) (ahd l 0 5).length e0, .slice (some ⟨g1, 0, none⟩) (ahd l 1 5).length e1, .slice (some ⟨g2, 0, none⟩) (ahd l 2 5).length e2, .slice (some ⟨g3, 0, none⟩) (ahd l 3 5).length e3, .slice (some ⟨g4, 0, none⟩) (ahd l 4 5).length e4] 49) = wz at HB HA ⊢
  generalize w1.heap.size = kb at HA ⊢
  go_wp2_with (at_make; refine wpList_make_full _ rfl _ _ 26 rfl wz.heap.size 3 ii (.int .i64 0) 1 Tryd.underlying26 hi hz0 hz1 .i64 .i64 _ _ 5 rfl rfl rfl rfl (by rw [hz2]; omega) (by unfold maxLen; omega) (Nat.le_refl _) ?_; intro w0 hown0 hgrow0)
  have hb0 : Below wz.heap.size wz w0 := (Below.refl _ _).grown hgrow0 (Nat.le_refl _) (fun k e => by cases e)
  have h5 : I5 w0 wz.heap.size (lvN l 0) := five_made5 hown0
  have hlt0 : wz.heap.size < w0.heap.size := (hown0.lt wz.heap.size rfl).2
  clear hown0 hgrow0
  go_loopw [18] (fun i wr => ∃ n : Nat, n ≤ 5 ∧ i = .int .i64 n ∧ Hid (I5 wr wz.heap.size (lvN l n)) ∧ wz.heap.size < wr.heap.size ∧ Below wz.heap.size wz wr) (fun i _ => 5 - (intOf i).toNat)
  case atStart => exact ⟨0, Nat.zero_le _, rfl, h5, hlt0, hb0⟩
  case round =>
    rename World => wo
    clear h5 hlt0 hb0
    obtain ⟨n, hn, rfl, HI, hlt, hb⟩ := hrel
    by_cases hn5 : n < 5
    · have hni : (n : Int) < 5 := by omega
      go_wp2
      go_loopw [22] (fun i wr => ∃ k : Nat, k ≤ l.length ∧ i = .int .i64 k ∧ Hid (I5 wr wz.heap.size (lvR l (lvN l n) (l.take k))) ∧ wz.heap.size < wr.heap.size ∧ Below wz.heap.size wz wr) (fun i _ => l.length - (intOf i).toNat)
      case atStart => exact ⟨0, Nat.zero_le _, rfl, HI.out, hlt, hb⟩
      case round =>
        clear HI hlt hb
        obtain ⟨k, hk, rfl, HI, hlt, hb⟩ := hrel
        by_cases hkl : k < l.length
        · have hki : (k : Int) < (l.length : Int) := by omega
          have bW := HB.out.trans (hb.mono HB.out.size)
          obtain ⟨lb, lo, f0, t0, kk, dd, rfl, hll, hx, c0, c1, c2, c3⟩ := HL.out.at hkl
          have hmem := List.mem_of_getElem? hx
          have hrr := w4_rooms (HOK.out _ hmem)
          simp only at hrr
          obtain ⟨fi, rfl⟩ : ∃ n : Nat, f0 = n := ⟨f0.toNat, by omega⟩
          obtain ⟨ti, rfl⟩ : ∃ n : Nat, t0 = n := ⟨t0.toNat, by omega⟩
          obtain ⟨_, hf5', _, ht5', _⟩ := hrr
          have hf5 : fi < 5 := by omega
          have ht5 : ti < 5 := by omega
          replace c0 := (bW.cell (p := ⟨lb, _, none⟩) hll).trans c0
          replace c1 := (bW.cell (p := ⟨lb, _, none⟩) hll).trans c1
          replace c2 := (bW.cell (p := ⟨lb, _, none⟩) hll).trans c2
          replace c3 := (bW.cell (p := ⟨lb, _, none⟩) hll).trans c3
          have HS : Hid (lvR l (lvN l n) (l.take (k + 1)) = lvS l (lvR l (lvN l n) (l.take k)) ((fi : Int), (ti : Int), kk, dd)) := by
            show _ = _
            rw [take_snoc4 hx, lvR_snoc]
          have hle := fun r (hr : r < 5) => lvT_le HOK.out n k hr
          have hv5 : ∀ r, r < 5 → lvR l (lvN l n) (l.take k) r ≤ 5 := fun r hr => Nat.le_trans (hle r hr) (lev_le l r)
          have qf := hv5 fi hf5
          have qt := hv5 ti ht5
          have hrs : rise l ((fi : Int), (ti : Int), kk, dd) ≤ 1 := by
            unfold rise
            split <;> omega
          clear hle hv5 hx hmem
          obtain ⟨o, ho⟩ : ∃ o, o = lvR l (lvN l n) (l.take k) := ⟨_, rfl⟩
          rw [← ho] at HI HS qf qt
          clear ho
          go_upto_region 10 with fail
          have bA : Below wz.heap.size wz (wr.alloc (.cells #[.int .i64 fi, .int .i64 ti, .int .i64 kk, .int .i64 dd] 47)) := hb.alloc hb.size _
          have bA' : Below wr.heap.size wr (wr.alloc (.cells #[.int .i64 fi, .int .i64 ti, .int .i64 kk, .int .i64 dd] 47)) := (Below.refl _ _).alloc (Nat.le_refl _) _
          have i0 : (wr.alloc (.cells #[.int .i64 fi, .int .i64 ti, .int .i64 kk, .int .i64 dd] 47)).cell? ⟨wr.heap.size, 0, none⟩ = some (.int .i64 fi) := by simp
          have i1 : (wr.alloc (.cells #[.int .i64 fi, .int .i64 ti, .int .i64 kk, .int .i64 dd] 47)).cell? ⟨wr.heap.size, 1, none⟩ = some (.int .i64 ti) := by simp
          have i2 : (wr.alloc (.cells #[.int .i64 fi, .int .i64 ti, .int .i64 kk, .int .i64 dd] 47)).cell? ⟨wr.heap.size, 2, none⟩ = some (.int .i64 kk) := by simp
          have i3 : (wr.alloc (.cells #[.int .i64 fi, .int .i64 ti, .int .i64 kk, .int .i64 dd] 47)).cell? ⟨wr.heap.size, 3, none⟩ = some (.int .i64 dd) := by simp
          have hsz2 : wr.heap.size < (wr.alloc (.cells #[.int .i64 fi, .int .i64 ti, .int .i64 kk, .int .i64 dd] 47)).heap.size := by simp
          have HI2 : Hid (I5 (wr.alloc (.cells #[.int .i64 fi, .int .i64 ti, .int .i64 kk, .int .i64 dd] 47)) wz.heap.size o) := Sl5.below HI.out bA' hlt
          generalize wr.alloc (.cells #[.int .i64 fi, .int .i64 ti, .int .i64 kk, .int .i64 dd] 47) = wq at bA bA' i0 i1 i2 i3 hsz2 HI2 ⊢
          have hwb : wz.heap.size < wr.heap.size := hlt
          generalize wr.heap.size = wb at i0 i1 i2 i3 hsz2 hwb bA' ⊢
          have hwq : wz.heap.size < wq.heap.size := by omega
          clear HI c0 c1 c2 c3 bA'
          have hd : Below wz.heap.size wz wq.drew := bA.drew
          have HQ : Hid (∀ W, Below wq.heap.size wq W → W.cell? ⟨wb, 0, none⟩ = some (.int .i64 fi) ∧ W.cell? ⟨wb, 1, none⟩ = some (.int .i64 ti) ∧ W.cell? ⟨wb, 2, none⟩ = some (.int .i64 kk) ∧ W.cell? ⟨wb, 3, none⟩ = some (.int .i64 dd) ∧ W.cell? ⟨wz.heap.size, ti, none⟩ = some (.int .i64 (o ti : Nat)) ∧ W.cell? ⟨wz.heap.size, fi, none⟩ = some (.int .i64 (o fi : Nat))) := fun W hW =>
            ⟨(hW.cell (p := ⟨wb, 0, none⟩) hsz2).trans i0, (hW.cell (p := ⟨wb, 1, none⟩) hsz2).trans i1, (hW.cell (p := ⟨wb, 2, none⟩) hsz2).trans i2, (hW.cell (p := ⟨wb, 3, none⟩) hsz2).trans i3, ((Sl5.below HI2.out hW hwq) ti ht5).1, ((Sl5.below HI2.out hW hwq) fi hf5).1⟩
          clear i0 i1 i2 i3
          have bcur : Below wq.heap.size wq wq.drew := (Below.refl _ _).drew
          have HC : Hid (∀ W, Below wq.heap.size wq W → Calls Tryd.prog 19 #[.pointer (some ⟨kb, 0, none⟩), .agg #[.int .i64 fi, .int .i64 ti, .int .i64 kk, .int .i64 dd]] W fun e w' => e = .returned (.int .i64 (rise l ((fi : Int), (ti : Int), kk, dd) : Nat)) ∧ Below W.heap.size W w') := fun W hW => lvrise_any l kb fi ti kk dd W (HA.out.below (bA.trans (hW.mono bA.size))) hf5 ht5
          obtain ⟨rs, hre⟩ : ∃ rs, rs = rise l ((fi : Int), (ti : Int), kk, dd) := ⟨_, rfl⟩
          rw [← hre] at hrs HC
          have HRS : Hid (rs = rise l ((fi : Int), (ti : Int), kk, dd)) := hre
          clear hre
          have hwrap : IntKind.i64.wrap (((o fi : Nat) : Int) + ((rs : Nat) : Int)) = ((o fi : Nat) : Int) + ((rs : Nat) : Int) := IntWalk.i64_in _ (by omega)
          have hti : (ti : Int) < 5 := by omega
          have hfi : (fi : Int) < 5 := by omega
          refine wp_region_popped (fun W => W.cell? ⟨wb, 0, none⟩ = some (.int .i64 fi) ∧ W.cell? ⟨wb, 1, none⟩ = some (.int .i64 ti) ∧ W.cell? ⟨wb, 2, none⟩ = some (.int .i64 kk) ∧ W.cell? ⟨wb, 3, none⟩ = some (.int .i64 dd) ∧ W.cell? ⟨wz.heap.size, ti, none⟩ = some (.int .i64 (o ti : Nat)) ∧ W.cell? ⟨wz.heap.size, fi, none⟩ = some (.int .i64 (o fi : Nat))) (by kernel_rfl) rfl (by decide +kernel) (HQ.out _ bcur) (fun hHeld => ?_)
          simp only [List.pop_toArray, List.dropLast_cons_cons, List.dropLast_singleton, List.size_toArray, List.length_cons, List.length_nil, Nat.reduceAdd, Array.replicate_succ, Array.replicate_zero, List.push_toArray, List.nil_append, List.cons_append]
          refine wpAnyH_take (i := 0) (v := ?_) rfl (by decide +kernel) (by decide +kernel) (by decide +kernel) (fun _ _ _ h => h) (Or.inl ⟨by rfl, ?_⟩) (by assumption) ?_
          rotate_left
          · intro W hSw
            try dsimp only at hSw
            obtain ⟨hS1, hS2, hS3, hS4, hS5, hS6⟩ := hSw
            go_simp
            try with_reducible rfl
          simp only [Act.put, List.setIfInBounds_toArray, List.set_cons_zero]
          refine wpAnyH_take (i := 1) (v := ?_) rfl (by decide +kernel) (by decide +kernel) (by decide +kernel) (fun _ _ _ h => h) (Or.inl ⟨by rfl, ?_⟩) (by assumption) ?_
          rotate_left
          · intro W hSw
            try dsimp only at hSw
            obtain ⟨hS1, hS2, hS3, hS4, hS5, hS6⟩ := hSw
            go_simp
            try with_reducible rfl
          simp only [Act.put, List.setIfInBounds_toArray, List.set_cons_zero, List.set_cons_succ]
          refine wpAnyH_take (i := 2) (v := ?_) rfl (by decide +kernel) (by decide +kernel) (by decide +kernel) (fun _ _ _ h => h) (Or.inl ⟨by rfl, ?_⟩) (by assumption) ?_
          rotate_left
          · intro W hSw
            try dsimp only at hSw
            obtain ⟨hS1, hS2, hS3, hS4, hS5, hS6⟩ := hSw
            go_simp
            try with_reducible rfl
          simp only [Act.put, List.setIfInBounds_toArray, List.set_cons_zero, List.set_cons_succ]
          refine wpAnyH_take (i := 3) (v := ?_) rfl (by decide +kernel) (by decide +kernel) (by decide +kernel) (fun _ _ _ h => h) (Or.inl ⟨by rfl, ?_⟩) (by assumption) ?_
          rotate_left
          · intro W hSw
            try dsimp only at hSw
            obtain ⟨hS1, hS2, hS3, hS4, hS5, hS6⟩ := hSw
            go_simp
            try with_reducible rfl
          simp only [Act.put, List.setIfInBounds_toArray, List.set_cons_zero, List.set_cons_succ]
          refine wpAnyH_take (i := 4) (v := ?_) rfl (by decide +kernel) (by decide +kernel) (by decide +kernel) (fun _ _ _ h => h) (Or.inl ⟨by rfl, ?_⟩) (by assumption) ?_
          rotate_left
          · intro W hSw
            try dsimp only at hSw
            obtain ⟨hS1, hS2, hS3, hS4, hS5, hS6⟩ := hSw
            go_simp
            try with_reducible rfl
          simp only [Act.put, List.setIfInBounds_toArray, List.set_cons_zero, List.set_cons_succ]
          refine wpAnyH_take (i := 5) (v := ?_) rfl (by decide +kernel) (by decide +kernel) (by decide +kernel) (fun _ _ _ h => h) (Or.inl ⟨by rfl, ?_⟩) (by assumption) ?_
          rotate_left
          · intro W hSw
            try dsimp only at hSw
            obtain ⟨hS1, hS2, hS3, hS4, hS5, hS6⟩ := hSw
            go_simp
            try with_reducible rfl
          simp only [Act.put, List.setIfInBounds_toArray, List.set_cons_zero, List.set_cons_succ]
          refine wpAnyH_take (i := 6) (v := ?_) rfl (by decide +kernel) (by decide +kernel) (by decide +kernel) (fun _ _ _ h => h) (Or.inl ⟨by rfl, ?_⟩) (by assumption) ?_
          rotate_left
          · intro W hSw
            try dsimp only at hSw
            obtain ⟨hS1, hS2, hS3, hS4, hS5, hS6⟩ := hSw
            go_simp
            try with_reducible rfl
          simp only [Act.put, List.setIfInBounds_toArray, List.set_cons_zero, List.set_cons_succ]
          refine wpAnyH_take (i := 7) (v := ?_) rfl (by decide +kernel) (by decide +kernel) (by decide +kernel) (fun _ _ _ h => h) (Or.inl ⟨by rfl, ?_⟩) (by assumption) ?_
          rotate_left
          · intro W hSw
            try dsimp only at hSw
            obtain ⟨hS1, hS2, hS3, hS4, hS5, hS6⟩ := hSw
            go_simp
            try with_reducible rfl
          simp only [Act.put, List.setIfInBounds_toArray, List.set_cons_zero, List.set_cons_succ]
          refine wpAnyH_take (i := 8) (v := ?_) rfl (by decide +kernel) (by decide +kernel) (by decide +kernel) (fun _ _ _ h => h) (Or.inl ⟨by rfl, ?_⟩) (by assumption) ?_
          rotate_left
          · intro W hSw
            try dsimp only at hSw
            obtain ⟨hS1, hS2, hS3, hS4, hS5, hS6⟩ := hSw
            go_simp
            try with_reducible rfl
          simp only [Act.put, List.setIfInBounds_toArray, List.set_cons_zero, List.set_cons_succ]
          refine wpAnyH_take (i := 9) (v := ?_) rfl (by decide +kernel) (by decide +kernel) (by decide +kernel) (fun _ _ _ h => h) (Or.inl ⟨by rfl, ?_⟩) (by assumption) ?_
          rotate_left
          · intro W hSw
            try dsimp only at hSw
            obtain ⟨hS1, hS2, hS3, hS4, hS5, hS6⟩ := hSw
            go_simp
            try with_reducible rfl
          simp only [Act.put, List.setIfInBounds_toArray, List.set_cons_zero, List.set_cons_succ]
          refine wpAnyH_take (i := 10) (v := ?_) rfl (by decide +kernel) (by decide +kernel) (by decide +kernel) (fun _ _ _ h => h) (Or.inl ⟨by rfl, ?_⟩) (by assumption) ?_
          rotate_left
          · intro W hSw
            try dsimp only at hSw
            obtain ⟨hS1, hS2, hS3, hS4, hS5, hS6⟩ := hSw
            go_simp
            try with_reducible rfl
          simp only [Act.put, List.setIfInBounds_toArray, List.set_cons_zero, List.set_cons_succ]
          refine wpAnyH_take (i := 11) (v := ?_) rfl (by decide +kernel) (by decide +kernel) (by decide +kernel) (fun _ _ _ h => h) (Or.inl ⟨by rfl, ?_⟩) (by assumption) ?_
          rotate_left
          · intro W hSw
            try dsimp only at hSw
            obtain ⟨hS1, hS2, hS3, hS4, hS5, hS6⟩ := hSw
            go_simp
            try with_reducible rfl
          simp only [Act.put, List.setIfInBounds_toArray, List.set_cons_zero, List.set_cons_succ]
          refine wpAnyH_take (i := 12) (v := ?_) rfl (by decide +kernel) (by decide +kernel) (by decide +kernel) (fun _ _ _ h => h) (Or.inl ⟨by rfl, ?_⟩) (by assumption) ?_
          rotate_left
          · intro W hSw
            try dsimp only at hSw
            obtain ⟨hS1, hS2, hS3, hS4, hS5, hS6⟩ := hSw
            go_simp
            try with_reducible rfl
          simp only [Act.put, List.setIfInBounds_toArray, List.set_cons_zero, List.set_cons_succ]
          refine wpAnyH_take (i := 13) (v := ?_) rfl (by decide +kernel) (by decide +kernel) (by decide +kernel) (fun _ _ _ h => h) (Or.inl ⟨by rfl, ?_⟩) (by assumption) ?_
          rotate_left
          · intro W hSw
            try dsimp only at hSw
            obtain ⟨hS1, hS2, hS3, hS4, hS5, hS6⟩ := hSw
            go_simp
            try with_reducible rfl
          simp only [Act.put, List.setIfInBounds_toArray, List.set_cons_zero, List.set_cons_succ]
          clear hd
          refine wpAnyH_ready (rs := [14]) (by decide +kernel) (by simp) ?_
          refine AllReadyH.cons (o := _) rfl (fun K hK => ?_) AllReadyH.nil
          go_simp
          go_at_call 19
          refine (HC.out _ bcur).mono ?_
          rintro e wS ⟨rfl, bN⟩
          replace bcur := bcur.trans (bN.mono bcur.size)
          clear bN
          go_wp2_with fail
          refine hK.out _ _ (HQ.out _ bcur) (fun hHeld => ?_)
          clear hK K
          simp only [List.setIfInBounds_toArray, List.set_cons_zero, List.set_cons_succ]
          refine wpAnyH_take (i := 15) (v := .int .i64 (((o fi : Nat) : Int) + ((rs : Nat) : Int))) rfl (by decide +kernel) (by decide +kernel) (by decide +kernel) (fun _ _ _ h => h) (Or.inl ⟨by rfl, ?_⟩) (by assumption) ?_
          · intro W hSw
            try dsimp only at hSw
            obtain ⟨hS1, hS2, hS3, hS4, hS5, hS6⟩ := hSw
            go_simp
          simp only [Act.put, List.setIfInBounds_toArray, List.set_cons_zero, List.set_cons_succ]
          refine wpAnyH_ready (rs := [16]) (by decide +kernel) (by simp) ?_
          refine AllReadyH.cons (o := _) rfl (fun K hK => ?_) AllReadyH.nil
          go_simp
          rw [show (if ((o ti : Nat) : Int) < ((o fi : Nat) : Int) + ((rs : Nat) : Int) then ((o fi : Nat) : Int) + ((rs : Nat) : Int) else ((o ti : Nat) : Int)) = ((max (o ti) (o fi + rs) : Nat) : Int) from by split <;> omega]
          refine hK.out _ _ (HQ.out _ bcur) (fun hHeld => ?_)
          clear hK K
          simp only [List.setIfInBounds_toArray, List.set_cons_zero, List.set_cons_succ]
          refine wpAnyH_take (i := 17) (v := ?_) rfl (by decide +kernel) (by decide +kernel) (by decide +kernel) (fun _ _ _ h => h) (Or.inl ⟨by rfl, ?_⟩) (by assumption) ?_
          rotate_left
          · intro W hSw
            try dsimp only at hSw
            obtain ⟨hS1, hS2, hS3, hS4, hS5, hS6⟩ := hSw
            go_simp
            try with_reducible rfl
          simp only [Act.put, List.setIfInBounds_toArray, List.set_cons_zero, List.set_cons_succ]
          refine wpAnyH_done (by decide +kernel) ?_ _
          have HI3 : Hid (I5 wS wz.heap.size o) := Sl5.below HI2.out bcur hwq
          obtain ⟨d0, y0⟩ := HI3.out ti ht5
          have bS := bA.trans (bcur.mono bA.size)
          have hlS := bcur.size
          show Oper.wp _ _ _ _ _ _
          go_simp
          go_wp2
          go_roundw
          case rel =>
            refine ⟨k + 1, by omega, by go_num, ?_, by simp; omega, bS.setCell (p := ⟨wz.heap.size, ti, none⟩) (Nat.le_refl _) _⟩
            show I5 _ _ _
            have hset := I5.set (l := l) HI3.out ((fi : Int), (ti : Int), kk, dd) ht5 rfl
            rw [← HRS.out, Int.toNat_natCast, ← HS.out] at hset
            exact hset
          case measure => simp [intOf]; omega
        · obtain rfl : k = l.length := by omega
          have hki : decide ((l.length : Int) < (l.length : Int)) = false := by simp
          go_wp2
          go_roundw
          case rel => exact ⟨n + 1, by omega, by go_num, by rw [show lvN l (n + 1) = lvR l (lvN l n) (l.take l.length) from by rw [List.take_length]; rfl]; exact HI, hlt, hb⟩
          case measure => simp [intOf]; omega
    · obtain rfl : n = 5 := by omega
      go_wp2
      go_ret2
      exact ⟨_, rfl, I5.stp HI.out hlt (fun r hr => lvN_five HOK.out hr), HB.out.trans (hb.mono HB.out.size)⟩
/-- Least, as it was promised. -/
theorem lev_least_ok (G : World → Prop) : LevLeast G := fun l v W _ hl => by
  by_cases h : (wschk l).2 = 0
  · refine (lvleast_ok l v W hl h).mono ?_
    rintro e w' ⟨u, rfl, h1, h2⟩
    refine ⟨u, by rw [h]; rfl, ?_, h2⟩
    unfold levsE
    rw [if_pos h]
    exact h1
  · refine (lvleast_bad l v W hl h).mono ?_
    rintro e w' ⟨rfl, h2⟩
    refine ⟨_, by rw [wErr_not h], ?_, h2⟩
    unfold levsE
    rw [if_neg h]
    exact Or.inl ⟨rfl, _, _, rfl⟩
end Go.Proofs.YtbnliibgnnegeagDoor
