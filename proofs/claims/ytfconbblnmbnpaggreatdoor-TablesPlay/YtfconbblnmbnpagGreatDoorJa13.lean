/-
  KerG, KerGT, TbNew, TbSmall, TbTick, TabG, TabGS: joined into one text.
-/
import Derived.Test.YtfconbblnmbnpagGreatDoorJa11
import Derived.Test.YtfconbblnmbnpagGreatDoorJa12
import Derived.Test.YtfconbblnmbnpagGreatDoorGNew
import Derived.Test.YtfconbblnmbnpagGreatDoorJa2
import Derived.Test.YtfconbblnmbnpagGreatDoorJa10
namespace Go.Proofs.YtfconbblnmbnpagGreatDoor
open Go.RowKit

/-- A kernel of package kernel, made since w0, and all its blocks. -/
def KG (w0 w : World) (p : PD) (k : KD) (kb : Nat) (F : List Nat) : Prop := ∃ a : GW, GK w w0.heap.size p k kb a ∧ F = a.F kb ∧ Below w0.heap.size w0 w
def gker {G : World → Prop} (hG : ∀ w, G w → Forms w) (hall : ∀ w w', G w → Below w.heap.size w w' → G w') : KerC G where
  K := fun w0 w p _ _ _ k kb F => KG w0 w p k kb F
  all := hall
  since := fun ⟨_, _, _, hb⟩ => hb
  ge := fun ⟨_, h, hF, _⟩ g hg => by
    subst hF
    exact ⟨h.ge g hg, h.flt g hg⟩
  lower := fun h1 ⟨a, h, hF, hb⟩ => ⟨a, h.lower h1.size, hF, h1.trans (hb.mono h1.size)⟩
  frame := fun ⟨a, h, hF, hb⟩ ht hM => by
    subst hF
    exact ⟨a, h.frame ht (fun m hm => (hM m hm).1), rfl, hb.trans (ht.below (fun m hm => (hM m hm).2) hb.size)⟩
  new := fun p vc vs vw W hg hP hp => by
    refine (gnew_ok p vc vs vw W (hG W hg) hP hp).mono ?_
    rintro e w' ⟨kb, a, rfl, h, hb⟩
    exact ⟨kb, _, rfl, a, h, rfl, hb⟩
  no := fun p vc vs vw W hg hP hp => gnew_no p vc vs vw W (hG W hg) hP hp
  tick := fun {w0 W p _ _ _ k kb F} hg ⟨a, h, hF, hb⟩ hp hk ht => by
    subst hF
    refine (gtick_any p k kb w0.heap.size a W ((hG w0 hg).all hb) h hb.size hp hk ht).mono ?_
    rintro e w' ⟨rfl, a', h1, h2, h3⟩
    exact ⟨rfl, _, ⟨a', h1, rfl, hb.trans (h2.below h.ge hb.size)⟩, h2, h3⟩
  state := fun {_ W p _ _ _ k kb _} r ⟨a, h, _, _⟩ _ _ => gstate_any p k kb _ a r W h
end Go.Proofs.YtfconbblnmbnpagGreatDoor
namespace Go.Proofs.YtfconbblnmbnpagGreatDoor
open Go.RowKit

set_option maxRecDepth 100000 in
set_option maxHeartbeats 1000000 in
theorem gtime_any (p : PD) (k : KD) (kb base : Nat) (a : GW) (w : World) (h : GK w base p k kb a) :
    Calls Tryz.prog 28 #[.pointer (some ⟨kb, 0, none⟩)] w fun e w' => e = .returned (.int .i64 k.time) ∧ ∃ n, w' = w.drewN n := by
  have c5 := h.c5
  clear h
  go_enter Tryz.func28, Tryz.ntmps28
  go_wp2
  go_ret
  exact ⟨rfl, 0, rfl⟩
theorem gker_time {G : World → Prop} (hG : ∀ w, G w → Forms w) (hall : ∀ w w', G w → Below w.heap.size w w' → G w') : KerTime (gker hG hall) := fun {_ W p _ _ _ k kb _} ⟨a, h, _, _⟩ => gtime_any p k kb _ a W h
end Go.Proofs.YtfconbblnmbnpagGreatDoor
namespace Go.Proofs.YtfconbblnmbnpagGreatDoor
open Go.RowKit

theorem infoSps : (Tryz.prog.info? 23).map (fun i => (i.zero, i.size, i.bytes)) = some (some (.slice none 0 0), 1, 24) := by kernel_rfl
/-- Their block. -/
def TBk (W : World) (b : Nat) (kv : Value) (t : Int) (lv : Value) : Prop := W.heap[b]? = some (.cells #[kv, .int .i64 t, lv, .int .i64 0, .int .i64 0] 67 (0, 0))
theorem TBk.cs {W : World} {b : Nat} {kv lv : Value} {t : Int} (h : TBk W b kv t lv) : W.cell? ⟨b, 0, none⟩ = some kv ∧ W.cell? ⟨b, 1, none⟩ = some (.int .i64 t) ∧ W.cell? ⟨b, 2, none⟩ = some lv ∧ W.cell? ⟨b, 3, none⟩ = some (.int .i64 0) ∧ W.cell? ⟨b, 4, none⟩ = some (.int .i64 0) := by
  have e : W.heap[b]? = _ := h
  simp [World.cell?, e]
theorem TBk.free {W : World} {b : Nat} {kv lv : Value} {t : Int} (h : TBk W b kv t lv) (o : Nat) : W.frozen? ⟨b, o, none⟩ = false := by
  have e : W.heap[b]? = _ := h
  simp [World.frozen?, e]
theorem TBk.lists {W : World} {b : Nat} {kv lv : Value} {t : Int} (h : TBk W b kv t lv) (v : Value) : TBk (W.setCell ⟨b, 2, none⟩ v) b kv t v := by
  have e : W.heap[b]? = _ := h
  unfold TBk
  simp [World.setCell, Array.getElem?_modify, e]
theorem TBk.kern {W : World} {b : Nat} {kv lv : Value} {t : Int} (h : TBk W b kv t lv) (v : Value) : TBk (W.setCell ⟨b, 0, none⟩ v) b v t lv := by
  have e : W.heap[b]? = _ := h
  unfold TBk
  simp [World.setCell, Array.getElem?_modify, e]
/-- The plan's box. -/
def PBk (W : World) (b : Nat) (vc : Value) (t : Int) (vs vw : Value) : Prop := W.heap[b]? = some (.cells #[vc, .int .i64 t, vs, vw] 26 (0, 0))
theorem PBk.cs {W : World} {b : Nat} {vc vs vw : Value} {t : Int} (h : PBk W b vc t vs vw) : W.cell? ⟨b, 0, none⟩ = some vc ∧ W.cell? ⟨b, 1, none⟩ = some (.int .i64 t) ∧ W.cell? ⟨b, 2, none⟩ = some vs ∧ W.cell? ⟨b, 3, none⟩ = some vw := by
  have e : W.heap[b]? = _ := h
  simp [World.cell?, e]
theorem PBk.free {W : World} {b : Nat} {vc vs vw : Value} {t : Int} (h : PBk W b vc t vs vw) (o : Nat) : W.frozen? ⟨b, o, none⟩ = false := by
  have e : W.heap[b]? = _ := h
  simp [World.frozen?, e]
theorem PBk.spans {W : World} {b : Nat} {vc vs vw : Value} {t : Int} (h : PBk W b vc t vs vw) (v : Value) : PBk (W.setCell ⟨b, 2, none⟩ v) b vc t v vw := by
  have e : W.heap[b]? = _ := h
  unfold PBk
  simp [World.setCell, Array.getElem?_modify, e]
/-- Tables that are being made: so many lists. -/
structure NT (W0 W : World) (pb cb : Nat) (p : PD) (ls : List (List S3)) (vc vw vs lv : Value) (us : List Value) : Prop where
  tk : KTouch [pb, cb] W0 W
  pl : pb < W0.heap.size
  cl : cb < W0.heap.size
  ne : pb ≠ cb
  pbk : PBk W pb vc p.ticks vs vw
  blk : TBk W cb (.pointer none) p.ticks lv
  row : W.ownsRow W0.heap.size 23 1 lv us.length us
  rows : ∀ (i : Nat) u s, us[i]? = some u → ls[i]? = some s → W.ownsRow W0.heap.size 58 3 u s.length (spCells s)
  len : us.length ≤ ls.length
section
variable {W0 W : World} {pb cb : Nat} {p : PD} {ls : List (List S3)} {vc vw vs lv : Value} {us : List Value}
theorem NT.first (hp : pb < W0.heap.size) (hc : cb < W0.heap.size) (hne : pb ≠ cb) (h1 : PBk W0 pb vc p.ticks vs vw) (h2 : TBk W0 cb (.pointer none) p.ticks (.slice none 0 0)) : NT W0 W0 pb cb p ls vc vw vs (.slice none 0 0) [] :=
  ⟨KTouch.refl _ _, hp, hc, hne, h1, h2, World.ownsRow_nil _ _ _ _, fun i u c hi => (by simp at hi), Nat.zero_le _⟩
/-- Other spans in the box. -/
theorem NT.spans (h : NT W0 W pb cb p ls vc vw vs lv us) (v : Value) : NT W0 (W.setCell ⟨pb, 2, none⟩ v) pb cb p ls vc vw v lv us := by
  have hb : ∀ g, g ≠ pb → (W.setCell ⟨pb, 2, none⟩ v).heap[g]? = W.heap[g]? := fun g hg => Below.heap_setCell _ _ _ _ hg
  have hp := h.pl
  exact ⟨h.tk.trans (KTouch.set _ (by simp) 2 _), h.pl, h.cl, h.ne, h.pbk.spans v, (hb cb (Ne.symm h.ne)).trans h.blk, own_block h.row (fun g hg => hb g (by have := (h.row.lt g hg).1; omega)), fun i u s hu hs => own_block (h.rows i u s hu hs) (fun g hg => hb g (by have := ((h.rows i u s hu hs).lt g hg).1; omega)), h.len⟩
/-- A call that changes nothing old. -/
theorem NT.step {W' : World} (h : NT W0 W pb cb p ls vc vw vs lv us) (hb : Below W.heap.size W W') : NT W0 W' pb cb p ls vc vw vs lv us := by
  have hs := h.tk.size
  have hp := h.pl
  have hc := h.cl
  exact ⟨h.tk.trans (KTouch.of hb), h.pl, h.cl, h.ne, (hb.block pb (by omega)).trans h.pbk, (hb.block cb (by omega)).trans h.blk, own_below h.row hb (Nat.le_refl _), fun i u s hu hs => own_below (h.rows i u s hu hs) hb (Nat.le_refl _), h.len⟩
/-- One list more. -/
theorem NT.more {w1 wa : World} {lv' u : Value} {s : List S3} (h : NT W0 W pb cb p ls vc vw vs lv us) (hs : ls[us.length]? = some s) (b1 : Below W.heap.size W w1) (hu : w1.ownsRow W.heap.size 58 3 u s.length (spCells s))
    (hg : (w1.alloc (.cells #[u] 23)).grownBy wa lv.ownBlock) (hown : wa.ownsRow W0.heap.size 23 1 lv' (us.length + 1) (us ++ [u])) : NT W0 (wa.setCell ⟨cb, 2, none⟩ lv') pb cb p ls vc vw vs lv' (us ++ [u]) := by
  have b2 : Below W.heap.size W (w1.alloc (.cells #[u] 23)) := b1.alloc b1.size _
  have hsz := h.tk.size
  have hpl := h.pl
  have hcl := h.cl
  have h1 := b2.size
  have hcr : ∀ k, lv.ownBlock = some k → W0.heap.size ≤ k := fun k hk => (h.row.lt k hk).1
  have row2 := own_below h.row b2 (Nat.le_refl _)
  have hset : ∀ {e : TypeId} {size : Nat} {v : Value} {n : Nat} {xs : List Value}, wa.ownsRow W0.heap.size e size v n xs → (wa.setCell ⟨cb, 2, none⟩ lv').ownsRow W0.heap.size e size v n xs := fun hx => ownsRow_setCell_below hx (a := ⟨cb, 2, none⟩) h.cl lv'
  have hold : ∀ k, k < W0.heap.size → wa.heap[k]? = W.heap[k]? := fun k hk => (hg.block k (by omega) (fun e => by have := hcr k e.symm; omega)).trans (b2.block k (by omega))
  refine ⟨(h.tk.grow b2 hg hcr).trans (KTouch.set _ (by simp) 2 _), h.pl, h.cl, h.ne, ?_, TBk.lists (lv := lv) ((hold cb hcl).trans h.blk) lv', ?_, fun i x d hx hd => ?_, ?_⟩
  · exact (Below.heap_setCell _ _ _ _ h.ne).trans ((hold pb hpl).trans h.pbk)
  · rw [List.length_append]
    exact hset hown
  · by_cases hi : i < us.length
    · rw [List.getElem?_append_left hi] at hx
      have r2 := own_below (h.rows i x d hx hd) b2 (Nat.le_refl _)
      exact hset (r2.kept hg (own_apart (by decide) r2 row2))
    · have hlt := (List.getElem?_eq_some_iff.1 hx).1
      rw [List.length_append, List.length_singleton] at hlt
      obtain rfl : i = us.length := by omega
      rw [List.getElem?_append_right (Nat.le_refl _), Nat.sub_self] at hx
      simp only [List.getElem?_cons_zero, Option.some.injEq] at hx
      subst hx
      rw [hs] at hd
      obtain rfl := Option.some.inj hd
      have r2 := own_base (own_below hu ((Below.refl _ w1).alloc (Nat.le_refl _) (.cells #[u] 23)) (Nat.le_refl _)) hsz
      exact hset (r2.kept hg (own_apart (by decide) r2 row2))
  · rw [List.length_append, List.length_singleton]
    exact (List.getElem?_eq_some_iff.1 hs).1
end
/-- Lists in rows of their own can be read. -/
theorem gspl_own {w : World} {base : Nat} {lv : Value} {us : List Value} {ls : List (List S3)} (h : w.ownsRow base 23 1 lv us.length us) (hl : us.length = ls.length) (hr : ∀ (i : Nat) u s, us[i]? = some u → ls[i]? = some s → Sps w u s) : Spl w lv ls := by
  have hlt := h.lt
  have hcs := @World.ownsRow.cells _ _ _ _ _ _ _ h
  rcases h.2 with ⟨rfl, h0⟩ | ⟨g, cap, cur, rfl, _, _, hcap, _⟩
  · exact Or.inl ⟨List.eq_nil_of_length_eq_zero (by omega), _, _, rfl⟩
  · refine Or.inr ⟨g, 0, cap, by rw [hl], by omega, (hlt g rfl).2, fun i c hi => ?_⟩
    have hil : i < us.length := by rw [hl]; exact (List.getElem?_eq_some_iff.1 hi).1
    have hu : us[i]? = some us[i] := List.getElem?_eq_getElem hil
    have := hcs rfl i _ hu
    rw [Addr.add_lit] at this
    exact ⟨_, this, hr i _ c hu hi⟩
/-- All is there: tables. -/
theorem NT.done {w W0 W1 W5 : World} {pb cb kb : Nat} {p : PD} {ls : List (List S3)} {vc vw vs lv : Value} {us : List Value} {a : GW} {s0 : List S3} (hw : w.heap.size ≤ cb) (h1 : NT W0 W1 pb cb p ls vc vw vs lv us) (hb : Below W1.heap.size W1 W5) (hul : us.length = ls.length) (hs0 : listN ls 0 = s0) (hk : GK W5 W1.heap.size (withS p s0) (newK (withS p s0)) kb a) : ∃ x : TW, GT (W5.setCell ⟨cb, 0, none⟩ (.pointer (some ⟨kb, 0, none⟩))) w.heap.size p ls (newT p) cb x := by
  have h5 := h1.step hb
  have hB := h5.blk.kern (.pointer (some ⟨kb, 0, none⟩))
  obtain ⟨c0, c1, c2, c3, c4⟩ := hB.cs
  have hs1 := h1.tk.size
  have hs5 := hb.size
  have hcl := h1.cl
  have ht : KTouch [cb] W5 (W5.setCell ⟨cb, 0, none⟩ (.pointer (some ⟨kb, 0, none⟩))) := KTouch.set W5 (by simp) 0 _
  have hsz : (W5.setCell ⟨cb, 0, none⟩ (.pointer (some ⟨kb, 0, none⟩))).heap.size = W5.heap.size := by simp
  have hblk : ∀ g, g ≠ cb → (W5.setCell ⟨cb, 0, none⟩ (.pointer (some ⟨kb, 0, none⟩))).heap[g]? = W5.heap[g]? := fun g hg => Below.heap_setCell _ _ _ _ hg
  have hat : ∀ (i : Nat) u, us[i]? = some u → ∃ s, ls[i]? = some s := fun i u hu => ⟨_, List.getElem?_eq_getElem (by rw [← hul]; exact (List.getElem?_eq_some_iff.1 hu).1)⟩
  have hF : ∀ g ∈ lv.ownBlock.toList ++ us.filterMap Value.ownBlock, W0.heap.size ≤ g ∧ g < W1.heap.size := fun g hg => by
    rcases List.mem_append.1 hg with hg | hg
    · exact h1.row.lt g (ofOwn hg)
    · obtain ⟨u, hu, e⟩ := List.mem_filterMap.1 hg
      obtain ⟨i, hi⟩ := List.mem_iff_getElem?.1 hu
      obtain ⟨s, hs⟩ := hat i u hi
      exact (h1.rows i u s hi hs).lt g e
  have hcn : cb ∉ a.F kb := fun hm => by have := hk.ge cb hm; omega
  refine ⟨⟨kb, a, lv, lv.ownBlock.toList ++ us.filterMap Value.ownBlock⟩, c0, c1, c2, c3, c4, hB.free 3, hB.free 4, ?_, fun w' hs hb' => ?_, fun b off m cap e => ?_, ⟨hw, fun g hg => ?_⟩, ⟨by rw [hsz]; omega, fun g hg => ?_⟩, ⟨fun hm => ?_, hcn, fun g hg hm => ?_⟩⟩
  · show GK _ _ (withS p (listN ls 0)) (newK p) kb a
    rw [hs0]
    exact (hk.lower (by omega)).frame ht (fun m hm => by rw [List.mem_singleton] at hm; subst hm; exact hcn)
  · refine gspl_own (own_block h5.row (fun g hg => ?_)) hul (fun i u s hu hs => sps_of_own (own_block (h5.rows i u s hu hs) (fun g hg => ?_)))
    · have := (h5.row.lt g hg).1
      exact (hb' g (List.mem_append_left _ (by simp [hg]))).trans (hblk g (by omega))
    · have := ((h5.rows i u s hu hs).lt g hg).1
      exact (hb' g (List.mem_append_right _ (List.mem_filterMap.2 ⟨u, List.mem_of_getElem? hu, hg⟩))).trans (hblk g (by omega))
  · rcases h1.row.2 with ⟨e0, _⟩ | ⟨g, cap', cur, e0, _⟩
    · rw [e0] at e
      cases e
    · simp only at e
      rw [e0] at e ⊢
      injection e with e1
      injection e1 with e2
      injection e2 with e3
      subst e3
      simp [Value.ownBlock]
  · have := (hF g hg).1
    omega
  · have := (hF g hg).2
    rw [hsz]
    omega
  · have := (hF cb hm).1
    omega
  · have h6 := (hF g hg).2
    have h7 := hk.ge g hm
    omega
/-- What New answers. -/
def TbQ (w : World) (p : PD) (ls : List (List S3)) (e : Ending) (w' : World) : Prop :=
  ((tabE p ls = 0 ∧ ∃ cb x, e = .returned (.tuple #[.pointer (some ⟨cb, 0, none⟩), .nilIface]) ∧ GT w' w.heap.size p ls (newT p) cb x) ∨ (tabE p ls ≠ 0 ∧ ∃ x, e = .returned (.tuple #[.pointer x, wErr (tabE p ls)]))) ∧ Below w.heap.size w w'
theorem TbQ.bad {w w' : World} {p : PD} {ls : List (List S3)} {e : Int} (h : tabE p ls = e) (he : e ≠ 0) (hb : Below w.heap.size w w') : TbQ w p ls (.returned (.tuple #[.pointer none, .iface 64 (.int .i64 e)])) w' :=
  ⟨Or.inr ⟨by rw [h]; exact he, none, by rw [h, wErr_not he]⟩, hb⟩
set_option maxRecDepth 100000 in
set_option maxHeartbeats 4000000 in
theorem tbnew_many (p : PD) (vc vs vw : Value) (la : Option Addr) (lc : Nat) (ls : List (List S3)) (w : World) (hP : Pln w vc vs vw p) (h4 : 4 < ls.length) :
    Calls Tryz.prog 5 #[plV vc p.ticks vs vw, .slice la ls.length lc] w fun e w' => TbQ w p ls e w' := by
  obtain ⟨ca, cc, rfl⟩ := hP.code.form
  obtain ⟨sa, sc, rfl⟩ := hP.spans.form
  obtain ⟨wa, wc', rfl⟩ := hP.wires.form
  have HE : Hid (tabE p ls = 4) := by
    show _ = _
    unfold tabE
    rw [if_pos h4]
  have h4' : (4 : Int) < (ls.length : Int) := by omega
  unfold plV
  clear hP
  go_enter Tryz.func5, Tryz.ntmps5
  go_wp2
  go_ret2
  exact TbQ.bad HE.out (by decide) ((Below.refl _ _).alloc (Nat.le_refl _) _)
set_option maxRecDepth 100000 in
set_option maxHeartbeats 4000000 in
theorem tbnew_none (p : PD) (vc vs vw : Value) (la : Option Addr) (lc : Nat) (w : World) (hP : Pln w vc vs vw p) :
    Calls Tryz.prog 5 #[plV vc p.ticks vs vw, .slice la 0 lc] w fun e w' => TbQ w p [] e w' := by
  obtain ⟨ca, cc, rfl⟩ := hP.code.form
  obtain ⟨sa, sc, rfl⟩ := hP.spans.form
  obtain ⟨wa, wc', rfl⟩ := hP.wires.form
  have HE : Hid (tabE p [] = 5) := rfl
  unfold plV
  clear hP
  go_enter Tryz.func5, Tryz.ntmps5
  go_wp2
  go_ret2
  exact TbQ.bad HE.out (by decide) ((Below.refl _ _).alloc (Nat.le_refl _) _)
theorem listsE_next {p : PD} {ls : List (List S3)} {j : Nat} {s : List S3} (h : ls[j]? = some s) : listsE p (ls.drop j) = if plchk (withS p s) = 0 then listsE p (ls.drop (j + 1)) else plchk (withS p s) := by
  obtain ⟨hj, rfl⟩ := List.getElem?_eq_some_iff.1 h
  rw [List.drop_eq_getElem_cons hj, listsE]
set_option maxRecDepth 100000 in
set_option maxHeartbeats 16000000 in
theorem tbnew_mid (p : PD) (vc vs vw : Value) (la : Option Addr) (lc : Nat) (ls : List (List S3)) (w : World) (hfm : Forms w) (hP : Pln w vc vs vw p) (hl : Spl w (.slice la ls.length lc) ls) (h4 : ls.length ≤ 4) (h0 : 0 < ls.length) :
    Calls Tryz.prog 5 #[plV vc p.ticks vs vw, .slice la ls.length lc] w fun e w' => TbQ w p ls e w' := by
  obtain ⟨ca, cc, rfl⟩ := hP.code.form
  obtain ⟨sa, sc, rfl⟩ := hP.spans.form
  obtain ⟨wa, wc', rfl⟩ := hP.wires.form
  have HE : Hid (tabE p ls = listsE p ls) := by
    show _ = _
    unfold tabE
    rw [if_neg (by omega), if_neg (by omega)]
  have h4' : decide ((4 : Int) < (ls.length : Int)) = false := decide_eq_false (by omega)
  have h4'' : decide (4 < ls.length) = false := decide_eq_false (by omega)
  have h0I : (ls.length : Int) ≠ 0 := by omega
  have h0' : ((ls.length : Int) == 0) = false := beq_eq_false_iff_ne.2 h0I
  have h0'' : (ls.length == 0) = false := beq_eq_false_iff_ne.2 (by omega)
  have HP : Hid (Pln w (.slice ca p.code.length cc) (.slice sa p.spans.length sc) (.slice wa p.wires.length wc') p) := hP
  have HL : Hid (Spl w (.slice la ls.length lc) ls) := hl
  have HF : Hid (Forms w) := hfm
  generalize hvc : Value.slice ca p.code.length cc = vc at *
  generalize hvw : Value.slice wa p.wires.length wc' = vw at *
  unfold plV
  clear hP hl hfm
  go_enter Tryz.func5, Tryz.ntmps5
  go_upto_region 7 with fail
  have hW0 : Below w.heap.size w ((w.alloc (.cells #[vc, .int .i64 p.ticks, .slice sa p.spans.length sc, vw] 26)).alloc (.cells #[.pointer none, .int .i64 p.ticks, .slice none 0 0, .int .i64 0, .int .i64 0] 67)) := ((Below.refl _ _).alloc (Nat.le_refl _) _).alloc (by simp) _
  have hPB : PBk ((w.alloc (.cells #[vc, .int .i64 p.ticks, .slice sa p.spans.length sc, vw] 26)).alloc (.cells #[.pointer none, .int .i64 p.ticks, .slice none 0 0, .int .i64 0, .int .i64 0] 67)) w.heap.size vc p.ticks (.slice sa p.spans.length sc) vw := (Below.heap_alloc _ _ _ (by simp)).trans (World.alloc_heap_new _ _)
  have hTB : TBk ((w.alloc (.cells #[vc, .int .i64 p.ticks, .slice sa p.spans.length sc, vw] 26)).alloc (.cells #[.pointer none, .int .i64 p.ticks, .slice none 0 0, .int .i64 0, .int .i64 0] 67)) (w.heap.size + 1) (.pointer none) p.ticks (.slice none 0 0) := by
    have := World.alloc_heap_new (w.alloc (.cells #[vc, .int .i64 p.ticks, .slice sa p.spans.length sc, vw] 26)) (.cells #[.pointer none, .int .i64 p.ticks, .slice none 0 0, .int .i64 0, .int .i64 0] 67)
    rwa [World.size_alloc] at this
  have hs0 : ((w.alloc (.cells #[vc, .int .i64 p.ticks, .slice sa p.spans.length sc, vw] 26)).alloc (.cells #[.pointer none, .int .i64 p.ticks, .slice none 0 0, .int .i64 0, .int .i64 0] 67)).heap.size = w.heap.size + 2 := by simp
  generalize (w.alloc (.cells #[vc, .int .i64 p.ticks, .slice sa p.spans.length sc, vw] 26)).alloc (.cells #[.pointer none, .int .i64 p.ticks, .slice none 0 0, .int .i64 0, .int .i64 0] 67) = W0 at *
  have hNT0 : NT W0 W0 w.heap.size (w.heap.size + 1) p ls vc vw (.slice sa p.spans.length sc) (.slice none 0 0) [] := NT.first (by omega) (by omega) (by omega) hPB hTB
  obtain ⟨pb, hpb⟩ : ∃ b, w.heap.size = b := ⟨_, rfl⟩
  obtain ⟨cb, hcb⟩ : ∃ b, w.heap.size + 1 = b := ⟨_, rfl⟩
  have hpw : w.heap.size ≤ pb := by omega
  have hcw : w.heap.size ≤ cb := by omega
  have HNT0 : Hid (NT W0 W0 pb cb p ls vc vw (.slice sa p.spans.length sc) (.slice none 0 0) []) := by
    show NT _ _ _ _ _ _ _ _ _ _ _
    rw [← hpb, ← hcb]
    exact hNT0
  have HW : Hid (∀ W vs' lv' us, NT W0 W pb cb p ls vc vw vs' lv' us → Below w.heap.size w W) := fun W vs' lv' us hn => hW0.trans (hn.tk.below (fun b hb => by simp at hb; omega) hW0.size)
  clear hNT0 hPB hTB hs0 hW0
  rw [hcb, hpb]
  clear hpb hcb
  go_loopw [26] (fun i wr => ∃ us vs' lv', i = .int .i64 (us.length : Nat) ∧ NT W0 wr pb cb p ls vc vw vs' lv' us ∧ Hid (listsE p ls = listsE p (ls.drop us.length))) (fun i _ => ls.length - (intOf i).toNat)
  case atStart => exact ⟨[], _, _, rfl, HNT0.out, rfl⟩
  case round =>
    obtain ⟨us, vs', lq, rfl, hn1, HLE⟩ := hrel
    have hlen := hn1.len
    have hbx := HW.out _ _ _ _ hn1
    by_cases hkl : us.length < ls.length
    · have hki : (us.length : Int) < (ls.length : Int) := by omega
      obtain ⟨lb, lo, ua, ug, s, rfl, hblt, hsy, hcd, hsps⟩ := HL.out.at hkl
      replace hcd := (hbx.cell (p := ⟨lb, _, none⟩) hblt).trans hcd
      have HSY : Hid (ls[us.length]? = some s) := hsy
      have HNX : Hid (listsE p ls = if plchk (withS p s) = 0 then listsE p (ls.drop (us.length + 1)) else plchk (withS p s)) := HLE.out.trans (listsE_next hsy)
      have HN1 : Hid (NT W0 (wr.setCell ⟨pb, 2, none⟩ (.slice ua s.length ug)) pb cb p ls vc vw (.slice ua s.length ug) lq us) := hn1.spans _
      obtain ⟨k0, k1, k2, k3⟩ := hn1.pbk.cs
      have g2 := hn1.pbk.free 2
      have hsz1 : (wr.setCell ⟨pb, 2, none⟩ (.slice ua s.length ug)).heap.size = wr.heap.size := by simp
      clear hn1 hsy HLE
      go_upto_region 10 with fail
      clear k0 k1 k2 k3 g2
      generalize wr.setCell ⟨pb, 2, none⟩ (.slice ua s.length ug) = W1 at *
      have hb1 := HW.out _ _ _ _ HN1.out
      obtain ⟨k0, k1, k2, k3⟩ := HN1.out.pbk.cs
      have HCk : Hid (Calls Tryz.prog 17 #[.agg #[vc, .int .i64 p.ticks, .slice ua s.length ug, vw]] W1 fun e w' => e = .returned (wErr (plchk (withS p s))) ∧ Below W1.heap.size W1 w') := plcheck_any (withS p s) vc (.slice ua s.length ug) vw W1 (HF.out.all hb1) ⟨(HP.out.all hb1).code, hsps.all hb1, (HP.out.all hb1).wires⟩
      by_cases he : plchk (withS p s) = 0
      · rw [if_pos he] at HNX
        rw [he, show wErr 0 = .nilIface from rfl] at HCk
        have hsl : s.length ≤ 12 := (fchk_zero (plchk_zero he).2.2.1).2.2.1
        clear hcd he
        go_upto_region 13 with (go_at_call 17; refine HCk.out.mono ?_; rintro e w2 ⟨rfl, b2⟩)
        have HN : Hid (NT W0 w2 pb cb p ls vc vw (.slice ua s.length ug) lq us) := HN1.out.step b2
        have hb2 := hb1.trans (b2.mono hb1.size)
        have HCl : Hid (∀ W, Below w2.heap.size w2 W → Calls Tryz.prog 18 #[.slice ua s.length ug] W fun e w' => ∃ ao n cap, e = .returned (.slice ao n cap) ∧ w'.ownsRow W.heap.size 58 3 (.slice ao n cap) s.length (spCells s) ∧ Below W.heap.size W w') := fun W hb => by
          refine (clone_sps s _ W (hsps.all (hb2.trans (hb.mono hb2.size))) (by omega)).mono ?_
          rintro e w' ⟨v, rfl, h1, h2⟩
          obtain ⟨ao, n, cap, rfl⟩ := own_form h1
          exact ⟨ao, n, cap, rfl, h1, h2⟩
        clear HN1 k0 k1 k2 k3 b2 HCk hsps
        generalize w2 = wr at *
        have c0 := HN.out.blk.cs.2.2.1
        have hkr : cb < wr.heap.size := Nat.lt_of_lt_of_le HN.out.cl HN.out.tk.size
        have bQ : Below wr.heap.size wr wr.drew := (Below.refl _ _).drew
        refine wp_region_popped (fun W => W.cell? ⟨cb, 2, none⟩ = some lq) (by kernel_rfl) rfl (by decide +kernel) c0 (fun hHeld => ?_)
        simp only [List.pop_toArray, List.dropLast_cons_cons, List.dropLast_singleton, List.size_toArray, List.length_cons, List.length_nil, Nat.reduceAdd, Array.replicate_succ, Array.replicate_zero, List.push_toArray, List.nil_append, List.cons_append]
        refine wpAnyH_take (i := 0) (v := ?_) rfl (by decide +kernel) (by decide +kernel) (by decide +kernel) (fun _ _ _ h => h) (Or.inl ⟨by rfl, ?_⟩) (by assumption) ?_
        rotate_left
        · intro W hSw
          try dsimp only at hSw
          go_simp
          try with_reducible rfl
        simp only [Act.put, List.setIfInBounds_toArray, List.set_cons_zero]
        refine wpAnyH_take (i := 1) (v := ?_) rfl (by decide +kernel) (by decide +kernel) (by decide +kernel) (fun _ _ _ h => h) (Or.inl ⟨by rfl, ?_⟩) (by assumption) ?_
        rotate_left
        · intro W hSw
          try dsimp only at hSw
          go_simp
          try with_reducible rfl
        simp only [Act.put, List.setIfInBounds_toArray, List.set_cons_zero, List.set_cons_succ]
        refine wpAnyH_take (i := 2) (v := ?_) rfl (by decide +kernel) (by decide +kernel) (by decide +kernel) (fun _ _ _ h => h) (Or.inl ⟨by rfl, ?_⟩) (by assumption) ?_
        rotate_left
        · intro W hSw
          try dsimp only at hSw
          go_simp
          try with_reducible rfl
        simp only [Act.put, List.setIfInBounds_toArray, List.set_cons_zero, List.set_cons_succ]
        refine wpAnyH_take (i := 3) (v := ?_) rfl (by decide +kernel) (by decide +kernel) (by decide +kernel) (fun _ _ _ h => h) (Or.inl ⟨by rfl, ?_⟩) (by assumption) ?_
        rotate_left
        · intro W hSw
          try dsimp only at hSw
          go_simp
          try with_reducible rfl
        simp only [Act.put, List.setIfInBounds_toArray, List.set_cons_zero, List.set_cons_succ]
        refine wpAnyH_take (i := 4) (v := ?_) rfl (by decide +kernel) (by decide +kernel) (by decide +kernel) (fun _ _ _ h => h) (Or.inl ⟨by rfl, ?_⟩) (by assumption) ?_
        rotate_left
        · intro W hSw
          try dsimp only at hSw
          go_simp
          try with_reducible rfl
        simp only [Act.put, List.setIfInBounds_toArray, List.set_cons_zero, List.set_cons_succ]
        refine wpAnyH_take (i := 5) (v := ?_) rfl (by decide +kernel) (by decide +kernel) (by decide +kernel) (fun _ _ _ h => h) (Or.inl ⟨by rfl, ?_⟩) (by assumption) ?_
        rotate_left
        · intro W hSw
          try dsimp only at hSw
          go_simp
          try with_reducible rfl
        simp only [Act.put, List.setIfInBounds_toArray, List.set_cons_zero, List.set_cons_succ]
        refine wpAnyH_ready (rs := [6]) (by decide +kernel) (by simp) ?_
        refine AllReadyH.cons (o := _) rfl (fun K hK => ?_) AllReadyH.nil
        go_simp
        go_at_call 18
        refine (HCl.out _ bQ).mono ?_
        rintro e w8 ⟨vo, vn, vk, rfl, hown8, b8⟩
        replace b8 := bQ.trans (b8.mono (Nat.le_refl _))
        have s8 : w8.cell? ⟨cb, 2, none⟩ = some lq := (b8.cell (p := ⟨cb, 2, none⟩) hkr).trans c0
        go_wp2_with fail
        refine hK.out _ _ s8 (fun hHeld => ?_)
        clear hK K
        simp only [List.setIfInBounds_toArray, List.set_cons_zero, List.set_cons_succ]
        refine wpAnyH_ready (rs := [7]) (by decide +kernel) (by simp) ?_
        refine AllReadyH.cons (o := _) rfl (fun K hK => ?_) AllReadyH.nil
        go_simp
        have b9 : Below wr.heap.size wr (w8.alloc (.cells #[.slice vo vn vk] 23)) := b8.alloc b8.size _
        have s9 : (w8.alloc (.cells #[.slice vo vn vk] 23)).cell? ⟨cb, 2, none⟩ = some lq := (b9.cell (p := ⟨cb, 2, none⟩) hkr).trans c0
        refine hK.out _ _ s9 (fun hHeld => ?_)
        clear hK K
        simp only [List.setIfInBounds_toArray, List.set_cons_zero, List.set_cons_succ]
        refine wpAnyH_ready (rs := [8]) (by decide +kernel) (by simp) ?_
        refine AllReadyH.cons (o := _) rfl (fun K hK => ?_) AllReadyH.nil
        obtain ⟨iT, hiT, hz1, hz2, hz3⟩ := info3 infoSps
        have hro9 := own_below HN.out.row b9 (Nat.le_refl _)
        have hs09 : W0.heap.size ≤ (w8.alloc (.cells #[.slice vo vn vk] 23)).heap.size := Nat.le_trans HN.out.tk.size b9.size
        obtain ⟨lv2, wa9, hra, hown9, hgr9, hnw9⟩ := run_append_at (P := Tryz.prog) (w8.alloc (.cells #[.slice vo vn vk] 23)) 27 27 W0.heap.size 23 iT _ 1 24 (by kernel_rfl) hiT hz1 hz2 hz3 rfl (by decide) lq us.length us hro9 ⟨w8.heap.size, 0, none⟩ 1 1 [.slice vo vn vk] rfl (one_new_at rfl _ _) (by simp [Value.oneCell']) (by have : maxLen = 9223372036854775807 := rfl; omega) (by omega) hs09
        clear hiT hz1 hz2 hz3
        obtain ⟨gv, ck, rfl⟩ : ∃ g cap, lv2 = .slice (some ⟨g, 0, none⟩) (us.length + 1) cap := own_succ hown9
        have hcr : ∀ k, lq.ownBlock = some k → W0.heap.size ≤ k := fun k hk => (HN.out.row.lt k hk).1
        have hblk9 : wa9.heap[cb]? = wr.heap[cb]? := (hgr9.block cb (Nat.lt_of_lt_of_le hkr b9.size) (fun e => by have := hcr cb e.symm; have := HN.out.cl; omega)).trans (b9.block cb hkr)
        have s10 : wa9.cell? ⟨cb, 2, none⟩ = some lq := (World.cell?_of_block (w := wr) (a := ⟨cb, 2, none⟩) hblk9).trans c0
        have f10 : wa9.frozen? ⟨cb, 2, none⟩ = false := (World.frozen?_of_block (w := wr) (a := ⟨cb, 2, none⟩) hblk9).trans (HN.out.blk.free 2)
        have HN9 := HN.out.more HSY.out b8 hown8 hgr9 hown9
        refine step_append_eq rfl (.tmp 41) (.tmp 44) 27 rfl lq (.slice (some ⟨w8.heap.size, 0, none⟩) 1 1) rfl rfl (.slice (some ⟨gv, 0, none⟩) (us.length + 1) ck) wa9 hra ?_
        refine hK.out _ _ s10 (fun hHeld => ?_)
        clear hK K
        simp only [Act.put, List.setIfInBounds_toArray, List.set_cons_zero, List.set_cons_succ]
        refine wpAnyH_take (i := 9) (v := ?_) rfl (by decide +kernel) (by decide +kernel) (by decide +kernel) (fun _ _ _ h => h) (Or.inl ⟨by rfl, ?_⟩) (by assumption) ?_
        rotate_left
        · intro W hSw
          try dsimp only at hSw
          go_simp
          try with_reducible rfl
        simp only [Act.put, List.setIfInBounds_toArray, List.set_cons_zero, List.set_cons_succ]
        refine wpAnyH_take (i := 10) (v := ?_) rfl (by decide +kernel) (by decide +kernel) (by decide +kernel) (fun _ _ _ h => h) (Or.inl ⟨by rfl, ?_⟩) (by assumption) ?_
        rotate_left
        · intro W hSw
          try dsimp only at hSw
          go_simp
          try with_reducible rfl
        simp only [Act.put, List.setIfInBounds_toArray, List.set_cons_zero, List.set_cons_succ]
        refine wpAnyH_done (by decide +kernel) ?_ _
        show Oper.wp _ _ _ _ _ _
        go_simp
        clear hra hown9 hgr9 hnw9 s8 s9 s10 f10 hHeld b8 b9 hown8 hro9 hs09 hblk9 c0 HCl hcr
        go_wp2_with fail
        go_roundw
        case rel => exact ⟨us ++ [.slice vo vn vk], _, _, by rw [List.length_append]; go_num, HN9, by rw [List.length_append]; exact HNX⟩
        case measure => simp [intOf]; omega
      · rw [if_neg he] at HNX
        rw [wErr_not he] at HCk
        have HT : Hid (tabE p ls = plchk (withS p s)) := HE.out.trans HNX.out
        have HEE : Hid (plchk (withS p s) ≠ 0) := he
        generalize plchk (withS p s) = ec at *
        clear HNX he
        go_wp2_with (go_at_call 17; refine HCk.out.mono ?_; rintro e w2 ⟨rfl, b2⟩)
        go_ret2
        exact TbQ.bad HT.out HEE.out (hb1.trans (b2.mono hb1.size))
    · have hki : decide ((us.length : Int) < (ls.length : Int)) = false := decide_eq_false (by omega)
      have hkn : decide (us.length < ls.length) = false := decide_eq_false (by omega)
      have hul : Hid (us.length = ls.length) := by show _ = _; omega
      have HZ : Hid (listsE p ls = 0) := by
        show _ = _
        rw [HLE.out, hul.out, List.drop_length]
        rfl
      obtain ⟨lb, lo, ua, ug, s, rfl, hblt, hsy, hcd, hsps⟩ := HL.out.at h0
      replace hcd := (hbx.cell (p := ⟨lb, _, none⟩) hblt).trans hcd
      rw [Nat.add_zero] at hcd
      have hpz : plchk (withS p s) = 0 := listsE_zero HZ.out s (List.mem_of_getElem? hsy)
      have HS0 : Hid (listN ls 0 = s) := by
        show _ = _
        unfold listN
        simp [List.getD, hsy]
      have HN1 : Hid (NT W0 (wr.setCell ⟨pb, 2, none⟩ (.slice ua s.length ug)) pb cb p ls vc vw (.slice ua s.length ug) lq us) := hn1.spans _
      obtain ⟨k0, k1, k2, k3⟩ := hn1.pbk.cs
      have g2 := hn1.pbk.free 2
      clear hn1 hsy HLE
      go_upto_region 16 with fail
      clear k0 k1 k2 k3 g2 hcd
      generalize wr.setCell ⟨pb, 2, none⟩ (.slice ua s.length ug) = W1 at *
      have hb1 := HW.out _ _ _ _ HN1.out
      obtain ⟨k0, k1, k2, k3⟩ := HN1.out.pbk.cs
      have HNw : Hid (Calls Tryz.prog 19 #[.agg #[vc, .int .i64 p.ticks, .slice ua s.length ug, vw]] W1 fun e w' => ∃ kb a, e = .returned (.tuple #[.pointer (some ⟨kb, 0, none⟩), .nilIface]) ∧ GK w' W1.heap.size (withS p s) (newK (withS p s)) kb a ∧ Below W1.heap.size W1 w') := gnew_ok (withS p s) vc (.slice ua s.length ug) vw W1 (HF.out.all hb1) ⟨(HP.out.all hb1).code, hsps.all hb1, (HP.out.all hb1).wires⟩ hpz
      clear hsps hpz
      go_upto_region 19 with (go_at_call 19; refine HNw.out.mono ?_; rintro e w5 ⟨kb, a, rfl, hgk, b5⟩)
      have HD : Hid (∃ x : TW, GT (w5.setCell ⟨cb, 0, none⟩ (.pointer (some ⟨kb, 0, none⟩))) w.heap.size p ls (newT p) cb x) := NT.done (by omega) HN1.out b5 hul.out HS0.out hgk
      have h5 := HN1.out.step b5
      have HB : Hid (Below w.heap.size w (w5.setCell ⟨cb, 0, none⟩ (.pointer (some ⟨kb, 0, none⟩)))) := by
        have := HW.out _ _ _ _ h5
        exact this.setCell (by show _ ≤ cb; omega) _
      have c0 := h5.blk.cs.1
      have f0 := h5.blk.free 0
      clear h5 hgk HN1 k0 k1 k2 k3 HNw
      go_wp2_with fail
      go_ret2
      obtain ⟨x, hx⟩ := HD.out
      exact ⟨Or.inl ⟨HE.out.trans HZ.out, cb, x, rfl, hx⟩, HB.out⟩
theorem tbnew_any (p : PD) (vc vs vw lv : Value) (ls : List (List S3)) (w : World) (hfm : Forms w) (hP : Pln w vc vs vw p) (hl : Spl w lv ls) :
    Calls Tryz.prog 5 #[plV vc p.ticks vs vw, lv] w fun e w' => TbQ w p ls e w' := by
  obtain ⟨la, lc, rfl⟩ := hl.form
  by_cases h4 : 4 < ls.length
  · exact tbnew_many p vc vs vw la lc ls w hP h4
  · by_cases h0 : ls.length = 0
    · obtain rfl := List.eq_nil_of_length_eq_zero h0
      exact tbnew_none p vc vs vw la lc w hP
    · exact tbnew_mid p vc vs vw la lc ls w hfm hP hl (by omega) (by omega)
end Go.Proofs.YtfconbblnmbnpagGreatDoor
namespace Go.Proofs.YtfconbblnmbnpagGreatDoor
open Go.RowKit

set_option maxRecDepth 100000 in
set_option maxHeartbeats 2000000 in
theorem tbask_any (p : PD) (ls : List (List S3)) (d : TbD) (cb base : Nat) (x : TW) (i : Int) (w : World) (h : GT w base p ls d cb x) :
    Calls Tryz.prog 8 #[.pointer (some ⟨cb, 0, none⟩), .int .i64 i] w fun e w' => e = .returned (wErr (askE ls i)) ∧ GT w' base p ls (askT ls d i) cb x ∧ KTouch (x.F cb) w w' := by
  obtain ⟨ao, cap, hlv⟩ := h.lists.here.form
  have c2 := h.c2
  rw [hlv] at c2
  have c4 := h.c4
  have f4 := h.f4
  by_cases h0 : i < 0
  · have he : askE ls i = 1 := by
      unfold askE
      rw [if_pos (Or.inl h0)]
    have hd : askT ls d i = d := by
      unfold askT
      rw [he, if_neg (by decide)]
    rw [he, hd]
    have h0' : decide (i < 0) = true := decide_eq_true h0
    have H : Hid (GT w base p ls d cb x) := h
    clear h he hd h0
    go_enter Tryz.func8, Tryz.ntmps8
    go_wp2
    go_ret
    exact ⟨rfl, H.out, KTouch.refl _ _⟩
  · have h0' : decide (i < 0) = false := decide_eq_false h0
    by_cases h1 : (ls.length : Int) ≤ i
    · have he : askE ls i = 1 := by
        unfold askE
        rw [if_pos (Or.inr h1)]
      have hd : askT ls d i = d := by
        unfold askT
        rw [he, if_neg (by decide)]
      rw [he, hd]
      have h1' : decide ((ls.length : Int) ≤ i) = true := decide_eq_true h1
      have H : Hid (GT w base p ls d cb x) := h
      clear h he hd h0
      go_enter Tryz.func8, Tryz.ntmps8
      go_wp2
      go_ret
      exact ⟨rfl, H.out, KTouch.refl _ _⟩
    · have h1' : decide ((ls.length : Int) ≤ i) = false := decide_eq_false h1
      have he : askE ls i = 0 := by
        unfold askE
        rw [if_neg (by omega)]
      obtain ⟨n, rfl⟩ : ∃ n : Nat, i = n := ⟨i.toNat, by omega⟩
      have hd : askT ls d n = ⟨d.k, d.now, n⟩ := by
        unfold askT
        rw [he, if_pos rfl, Int.toNat_natCast]
      have h1'' : decide (ls.length ≤ n) = false := decide_eq_false (by omega)
      rw [he, hd]
      have H : Hid (GT w base p ls d cb x) := h
      clear h he hd h0 h1
      go_enter Tryz.func8, Tryz.ntmps8
      go_wp2
      go_ret
      exact ⟨rfl, H.out.asked n, KTouch.set w (x.mem0 cb) _ _⟩
set_option maxRecDepth 100000 in
set_option maxHeartbeats 2000000 in
theorem tbnow_any (p : PD) (ls : List (List S3)) (d : TbD) (cb base : Nat) (x : TW) (w : World) (h : GT w base p ls d cb x) (hn0 : 1 ≤ p.ticks) (hn1 : p.ticks ≤ 40) (ht : 0 ≤ d.k.time) :
    Calls Tryz.prog 12 #[.pointer (some ⟨cb, 0, none⟩)] w fun e w' => e = .returned (.int .i64 (countT p d : Nat)) ∧ Below w.heap.size w w' := by
  have HT : Hid (∀ nq, Calls Tryz.prog 28 #[.pointer (some ⟨x.kb, 0, none⟩)] (w.drewN nq) fun e w' => e = .returned (.int .i64 d.k.time) ∧ ∃ n, w' = (w.drewN nq).drewN n) := fun nq => gtime_any _ d.k x.kb base x.a _ (h.k.all (below_dN (Below.refl _ w) nq))
  have hcnt : countT p d = if d.k.time % p.ticks = 0 then d.next else d.now := rfl
  have c0 := h.c0
  have c1 := h.c1
  have c3 := h.c3
  have c4 := h.c4
  clear h
  generalize countT p d = m at hcnt ⊢
  generalize d.k.time = t at *
  generalize p.ticks = n at *
  by_cases hr : t % n = 0
  · rw [if_pos hr] at hcnt
    subst hcnt
    have hr' : (t % n == 0) = true := by simpa using hr
    clear hr
    go_enter Tryz.func12, Tryz.ntmps12
    go_upto_region 1 with fail
    go_quiet ((go_at_call 28; exact Calls.quiet_of (HT.out _)))
    go_wp2_with fail
    go_ret
    exact ⟨rfl, below_dN (Below.refl _ _) _⟩
  · rw [if_neg hr] at hcnt
    subst hcnt
    have hr' : (t % n == 0) = false := by simpa using hr
    clear hr
    go_enter Tryz.func12, Tryz.ntmps12
    go_upto_region 1 with fail
    go_quiet ((go_at_call 28; exact Calls.quiet_of (HT.out _)))
    go_wp2_with fail
    go_ret
    exact ⟨rfl, below_dN (Below.refl _ _) _⟩
end Go.Proofs.YtfconbblnmbnpagGreatDoor
namespace Go.Proofs.YtfconbblnmbnpagGreatDoor
open Go.RowKit

theorem listN_at {ls : List (List S3)} {n : Nat} {l : List S3} (h : ls[n]? = some l) : listN ls n = l := by
  unfold listN
  simp [List.getD, h]
set_option maxRecDepth 100000 in
set_option maxHeartbeats 8000000 in
theorem tbcount_any (p : PD) (ls : List (List S3)) (d : TbD) (cb base : Nat) (x : TW) (n : Nat) (w : World) (h : GT w base p ls d cb x) (hbw : base ≤ w.heap.size) (hz : tabE p ls = 0) (hok : TOk p ls d) (hn : n < ls.length) :
    Calls Tryz.prog 21 #[.pointer (some ⟨cb, 0, none⟩), .int .i64 (n : Nat)] w fun e w' => (∃ v, e = .returned v) ∧ ∃ a', GT w' base p ls ⟨d.k, n, d.next⟩ cb { x with a := a' } ∧ KTouch (x.F cb) w w' ∧ ∀ g ∈ a'.F x.kb, g ∈ x.a.F x.kb ∨ w.heap.size ≤ g := by
  have c0 := h.c0
  have c3 := h.c3
  have H : Hid (GT w base p ls d cb x) := h
  by_cases hnow : n = d.now
  · subst hnow
    have hq : ((d.now : Int) != (d.now : Int)) = false := by simp
    have hq2 : ((d.now : Int) == (d.now : Int)) = true := by simp
    clear h hok hz hn c0
    go_enter Tryz.func21, Tryz.ntmps21
    go_upto_region 0 with fail
    go_quiet (fail)
    go_wp2_with fail
    first | go_end0 | ((try simp only [Exit.inBlock, Exit.then]); refine bodyPost_ret (results_none rfl _ _ _) rfl ?_)
    exact ⟨⟨_, rfl⟩, x.a, H.out.all (below_dN (Below.refl _ _) _), KTouch.of (below_dN (Below.refl _ _) _), fun g hg => Or.inl hg⟩
  · have hneI : (n : Int) ≠ (d.now : Int) := by omega
    have hq : ((n : Int) != (d.now : Int)) = true := bne_iff_ne.2 hneI
    have hq2 : ((n : Int) == (d.now : Int)) = false := beq_eq_false_iff_ne.2 hneI
    have hq3 : (n != d.now) = true := bne_iff_ne.2 hnow
    have hq4 : (n == d.now) = false := beq_eq_false_iff_ne.2 hnow
    have hni : (n : Int) < (ls.length : Int) := by omega
    have hspl := h.lists.here
    obtain ⟨ao, cap, hlv⟩ := hspl.form
    rw [hlv] at hspl
    obtain ⟨b, off, u, g, l, rfl, hblt, hl, hcell, hsps⟩ := hspl.at hn
    have hln := listN_at hl
    have hkm : x.kb ∈ x.a.F x.kb := by simp [GW.F]
    have hbk : b ≠ x.kb := fun e => h.ap.2.2 b (h.lb b off _ _ hlv) (by rw [e]; exact hkm)
    have hck : cb ≠ x.kb := fun e => h.ap.2.1 (by rw [e]; exact hkm)
    have c2 := h.c2
    rw [hlv] at c2
    have hcl := h.lt.1
    have hpz : plchk (withS p l) = 0 := (tabE_zero hz).2.2 _ (List.mem_of_getElem? hl)
    have bD : Below w.heap.size w w.drew := (Below.refl _ _).drew
    have HU : Hid (Calls Tryz.prog 39 #[.pointer (some ⟨x.kb, 0, none⟩), .slice u l.length g] w.drew fun e w' => e = .returned .nilIface ∧ ∃ a', GK w' base (withS p l) d.k x.kb a' ∧ KTouch [x.kb] w.drew w' ∧ ∀ g ∈ a'.F x.kb, g ∈ x.a.F x.kb ∨ w.drew.heap.size ≤ g) := guse_ok (withS p (listN ls d.now)) d.k x.kb base x.a l _ w.drew (h.k.all bD) hbw (hsps.all bD) hpz (hok.k.withS _)
    have HLN : Hid (listN ls n = l) := hln
    have hS : ∀ W, KTouch [x.kb] w W → W.cell? ⟨cb, 0, none⟩ = some (.pointer (some ⟨x.kb, 0, none⟩)) ∧ W.cell? ⟨cb, 2, none⟩ = some (.slice (some ⟨b, off, none⟩) ls.length cap) ∧ W.cell? ⟨cb, 3, none⟩ = some (.int .i64 (d.now : Nat)) ∧ W.cell? ⟨b, off + n, none⟩ = some (.slice u l.length g) := fun W ht => by
      have b1 := ht.block cb hcl (by simpa using hck)
      have b2 := ht.block b hblt (by simpa using hbk)
      exact ⟨(World.cell?_of_block (w := w) (a := ⟨cb, 0, none⟩) b1).trans c0, (World.cell?_of_block (w := w) (a := ⟨cb, 2, none⟩) b1).trans c2, (World.cell?_of_block (w := w) (a := ⟨cb, 3, none⟩) b1).trans c3, (World.cell?_of_block (w := w) (a := ⟨b, off + n, none⟩) b2).trans hcell⟩
    have HS : Hid (∀ W, KTouch [x.kb] w W → W.cell? ⟨cb, 0, none⟩ = some (.pointer (some ⟨x.kb, 0, none⟩)) ∧ W.cell? ⟨cb, 2, none⟩ = some (.slice (some ⟨b, off, none⟩) ls.length cap) ∧ W.cell? ⟨cb, 3, none⟩ = some (.int .i64 (d.now : Nat)) ∧ W.cell? ⟨b, off + n, none⟩ = some (.slice u l.length g)) := hS
    have S0 := HS.out w.drew (KTouch.of bD)
    clear h hok hz hspl hl hln hsps hpz hS hbk hlv hnow hneI
    go_enter Tryz.func21, Tryz.ntmps21
    go_upto_region 0 with fail
    go_cut [24] from 4 to 23 (fun s24 wx => s24 = .bool true ∧ ∃ a', GK wx base (withS p l) d.k x.kb a' ∧ KTouch [x.kb] w wx ∧ ∀ g ∈ a'.F x.kb, g ∈ x.a.F x.kb ∨ w.heap.size ≤ g)
    case first =>
      go_region_held3 (fun W => W.cell? ⟨cb, 0, none⟩ = some (.pointer (some ⟨x.kb, 0, none⟩)) ∧ W.cell? ⟨cb, 2, none⟩ = some (.slice (some ⟨b, off, none⟩) ls.length cap) ∧ W.cell? ⟨cb, 3, none⟩ = some (.int .i64 (d.now : Nat)) ∧ W.cell? ⟨b, off + n, none⟩ = some (.slice u l.length g))
        (first | exact S0 | exact S1 | go_keep)
        (first
          | (go_at_call 39; refine HU.out.mono ?_; rintro e w1 ⟨rfl, a', hg1, tk1, hn1⟩; have tk0 : KTouch [x.kb] w w1 := (KTouch.of bD).trans tk1; have S1 := HS.out w1 tk0))
      go_wp2_with fail
      go_meet
      case rel => exact ⟨rfl, a', hg1, tk0, hn1⟩
    case rest =>
    obtain ⟨rfl, a', hg1, tk0, hn1⟩ := hcut
    have hblk := tk0.block cb hcl (by simpa using hck)
    have k3 := (World.cell?_of_block (w := w) (a := ⟨cb, 3, none⟩) hblk).trans c3
    have g3 := (World.frozen?_of_block (w := w) (a := ⟨cb, 3, none⟩) hblk).trans H.out.f3
    have D : GT (wc.setCell ⟨cb, 3, none⟩ (.int .i64 (n : Nat))) base p ls ⟨d.k, n, d.next⟩ cb { x with a := a' } := H.out.count tk0 (by rw [HLN.out]; exact hg1) hn1
    have tkE : KTouch (x.F cb) w (wc.setCell ⟨cb, 3, none⟩ (.int .i64 (n : Nat))) := (tk0.mono (fun m hm => by rw [List.mem_singleton] at hm; subst hm; exact TW.mem2 hkm)).trans (KTouch.set _ (x.mem0 cb) _ _)
    clear hg1 tk0 c0 c2 c3 hcell S0 HU HS
    go_step
    go_wp2_with fail
    first | go_end0 | ((try simp only [Exit.inBlock, Exit.then]); refine bodyPost_ret (results_none rfl _ _ _) rfl ?_)
    exact ⟨⟨_, rfl⟩, a', D, tkE, hn1⟩
set_option maxRecDepth 100000 in
set_option maxHeartbeats 8000000 in
theorem tbtick_any (p : PD) (ls : List (List S3)) (d : TbD) (cb base : Nat) (x : TW) (w : World) (h : GT w base p ls d cb x) (hbw : base ≤ w.heap.size) (hfb : ∀ W, Below base w W → Forms W) (hz : tabE p ls = 0) (hok : TOk p ls d) (ht : d.k.time < 100000000) :
    Calls Tryz.prog 9 #[.pointer (some ⟨cb, 0, none⟩)] w fun e w' => e = .returned (evA (evT p ls d)) ∧ ∃ x', GT w' base p ls (tickT p ls d) cb x' ∧ KTouch (x.F cb) w w' ∧ ∀ g ∈ x'.F cb, g ∈ x.F cb ∨ w.heap.size ≤ g := by
  have hp := spanT_right hz hok
  obtain ⟨hn0, hn1, _⟩ := fchk_zero (plchk_zero hp).2.2.1
  have hlt := countT_lt hok
  have hB1 : Below w.heap.size w (w.alloc (.cells #[.int .i64 0, .int .i64 0, .int .i64 0, .int .i64 0] 44)) := (Below.refl _ w).alloc (Nat.le_refl _) _
  have hbox : EvB (w.alloc (.cells #[.int .i64 0, .int .i64 0, .int .i64 0, .int .i64 0] 44)) w.heap.size 0 0 0 0 := World.alloc_heap_new w _
  generalize hW1 : w.alloc (.cells #[.int .i64 0, .int .i64 0, .int .i64 0, .int .i64 0] 44) = W1 at hB1 hbox
  obtain ⟨t1, ht1⟩ : ∃ y, (evT p ls d).1 = y := ⟨_, rfl⟩
  obtain ⟨t2, ht2⟩ : ∃ y, (evT p ls d).2.1 = y := ⟨_, rfl⟩
  obtain ⟨t3, ht3⟩ : ∃ y, (evT p ls d).2.2.1 = y := ⟨_, rfl⟩
  obtain ⟨t4, ht4⟩ : ∃ y, (evT p ls d).2.2.2 = y := ⟨_, rfl⟩
  have hgo : evA (evT p ls d) = .agg #[.int .i64 t1, .int .i64 t2, .int .i64 t3, .int .i64 t4] := by
    unfold evA
    rw [ht1, ht2, ht3, ht4]
  have hek : evA (tickK (withS p (spanT p ls d)) (withS p (spanT p ls d)).spans d.k).2 = .agg #[.int .i64 t1, .int .i64 t2, .int .i64 t3, .int .i64 t4] := hgo
  rw [hgo]
  have D1 := h.all hB1
  have HN : Hid (Calls Tryz.prog 12 #[.pointer (some ⟨cb, 0, none⟩)] W1 fun e w' => e = .returned (.int .i64 (countT p d : Nat)) ∧ Below W1.heap.size W1 w') := tbnow_any p ls d cb base x W1 D1 hn0 hn1 hok.k.time
  have HC : Hid (∀ W, Below w.heap.size w W → Calls Tryz.prog 21 #[.pointer (some ⟨cb, 0, none⟩), .int .i64 (countT p d : Nat)] W fun e w' => (∃ v, e = .returned v) ∧ ∃ a', GT w' base p ls ⟨d.k, countT p d, d.next⟩ cb { x with a := a' } ∧ KTouch (x.F cb) W w' ∧ ∀ g ∈ a'.F x.kb, g ∈ x.a.F x.kb ∨ W.heap.size ≤ g) := fun W hb => tbcount_any p ls d cb base x _ W (h.all hb) (Nat.le_trans hbw hb.size) hz hok hlt
  have HK : Hid (∀ W a', KTouch (x.F cb) w W → GT W base p ls ⟨d.k, countT p d, d.next⟩ cb { x with a := a' } → Calls Tryz.prog 22 #[.pointer (some ⟨x.kb, 0, none⟩)] W fun e w' => e = .returned (.agg #[.int .i64 t1, .int .i64 t2, .int .i64 t3, .int .i64 t4]) ∧ ∃ a2, GT w' base p ls (tickT p ls d) cb { x with a := a2 } ∧ KTouch (a'.F x.kb) W w' ∧ ∀ g ∈ a2.F x.kb, g ∈ a'.F x.kb ∨ W.heap.size ≤ g) := fun W a' hb hg => by
    have q := gtick_any (withS p (spanT p ls d)) d.k x.kb base a' W (hfb W (hb.below h.fge hbw)) hg.k (Nat.le_trans hbw hb.size) hp (hok.k.withS _) ht
    refine q.mono ?_
    rintro e w' ⟨rfl, a2, h1, h2, h3⟩
    exact ⟨by rw [hek], a2, hg.kern h2 h1 h3, h2, h3⟩
  have HF : Hid (∀ g ∈ x.F cb, g < w.heap.size) := h.flt
  have HD1 : Hid (GT W1 base p ls d cb x) := D1
  clear h hok hz D1 hgo hek ht1 ht2 ht3 ht4 hfb hp hn0 hn1
  generalize countT p d = n at *
  go_enter Tryz.func9, Tryz.ntmps9
  go_upto_region 1 with fail
  have hs1 : W1.heap.size = w.heap.size + 1 := by rw [← hW1]; simp
  clear hW1
  go_upto_region 2 with (first
    | (go_at_call 12; refine HN.out.mono ?_; rintro e w1 ⟨rfl, b1⟩; have hB2 := hB1.trans (b1.mono hB1.size); have hx1 : EvB w1 w.heap.size 0 0 0 0 := (b1.block _ hbox.lt).trans hbox)
    | (go_at_call 21; refine (HC.out w1 hB2).mono ?_; rintro e w2 ⟨⟨v, rfl⟩, a1, hg2, tk2, hn2⟩))
  have hnf : w.heap.size ∉ x.F cb := fun hm => by have := HF.out _ hm; omega
  have hx2 : EvB w2 w.heap.size 0 0 0 0 := (tk2.block _ hx1.lt hnf).trans hx1
  have tkA : KTouch (x.F cb) w w2 := (KTouch.of hB2).trans tk2
  have q := HK.out w2 a1 tkA hg2
  have c2 := hg2.c0
  have hs12 : w.heap.size < w1.heap.size := hx1.lt
  have hs2 : w.heap.size < w2.heap.size := hx2.lt
  have hn2' : ∀ g ∈ a1.F x.kb, g ∈ x.a.F x.kb ∨ w.heap.size + 1 ≤ g := fun g hg => (hn2 g hg).imp id (fun e => by omega)
  have hnf2 : w.heap.size ∉ a1.F x.kb := fun hm => by
    rcases hn2' _ hm with e | e
    · exact hnf (TW.mem2 e)
    · omega
  have HN2 : Hid (∀ g ∈ a1.F x.kb, g ∈ x.a.F x.kb ∨ w.heap.size + 1 ≤ g) := hn2'
  clear hg2 tk2 hx1 HN HC HK hn2 hn2' hB2
  go_wp2_with (go_at_call 22; refine q.mono ?_; rintro e w6 ⟨rfl, a2, hg6, tk6, hn6⟩; clear q; have hev : EvB w6 w.heap.size 0 0 0 0 := (tk6.block w.heap.size hs2 hnf2).trans hx2; obtain ⟨v0, v1, v2, v3⟩ := hev.cs; obtain ⟨y0, y1, y2, y3⟩ := hev.fs)
  have tkE : KTouch [w.heap.size] w6 ((((w6.setCell ⟨w.heap.size, 0, none⟩ (.int .i64 t1)).setCell ⟨w.heap.size, 1, none⟩ (.int .i64 t2)).setCell ⟨w.heap.size, 2, none⟩ (.int .i64 t3)).setCell ⟨w.heap.size, 3, none⟩ (.int .i64 t4)) := (((KTouch.set w6 (by simp) 0 _).trans (KTouch.set _ (by simp) 1 _)).trans (KTouch.set _ (by simp) 2 _)).trans (KTouch.set _ (by simp) 3 _)
  have hnA : ∀ g ∈ a2.F x.kb, g ∈ x.a.F x.kb ∨ w.heap.size + 1 ≤ g := fun g hg => by
    rcases hn6 g hg with e | e
    · exact HN2.out g e
    · exact Or.inr (by omega)
  have hnew : ∀ g ∈ TW.F cb { x with a := a2 }, g ∈ x.F cb ∨ w.heap.size + 1 ≤ g := TW.new hnA
  have tk6' : KTouch (x.F cb) w w6 := by
    refine ⟨tk6.os.trans tkA.os, tk6.tape.trans tkA.tape, tk6.output.trans tkA.output, Nat.le_trans tkA.size tk6.size, fun k hk hm => ?_⟩
    refine (tk6.block k (Nat.lt_of_lt_of_le hk tkA.size) (fun hk2 => ?_)).trans (tkA.block k hk hm)
    rcases HN2.out k hk2 with e | e
    · exact hm (TW.mem2 e)
    · omega
  refine bodyPost_ret (v := .agg #[.int .i64 t1, .int .i64 t2, .int .i64 t3, .int .i64 t4]) ?_ rfl ⟨rfl, { x with a := a2 }, hg6.frame tkE (fun m hm => ?_), tk6'.more tkE (by simp), fun g hg => (hnew g hg).imp id (fun e => by omega)⟩
  · simp [results, Tryz.results9, go_sem, v0, v1, v2, v3]
  · rw [List.mem_singleton] at hm
    subst hm
    intro hm
    rcases hnew _ hm with e | e
    · exact hnf e
    · omega
end Go.Proofs.YtfconbblnmbnpagGreatDoor
namespace Go.Proofs.YtfconbblnmbnpagGreatDoor
open Go.RowKit

/-- Tables of package tables, made since w0, and all their blocks. -/
def KTb (w0 w : World) (p : PD) (ls : List (List S3)) (d : TbD) (cb : Nat) (F : List Nat) : Prop := ∃ x : TW, GT w w0.heap.size p ls d cb x ∧ F = x.F cb ∧ Below w0.heap.size w0 w
def gtab {G : World → Prop} (hG : ∀ w, G w → Forms w) (hall : ∀ w w', G w → Below w.heap.size w w' → G w') : TabC G where
  K := KTb
  all := hall
  since := fun ⟨_, _, _, hb⟩ => hb
  ge := fun ⟨_, h, hF, _⟩ g hg => by
    subst hF
    exact ⟨h.fge g hg, h.flt g hg⟩
  lower := fun h1 ⟨x, h, hF, hb⟩ => ⟨x, h.lower h1.size, hF, h1.trans (hb.mono h1.size)⟩
  frame := fun ⟨x, h, hF, hb⟩ ht hM => by
    subst hF
    exact ⟨x, h.frame ht (fun m hm => (hM m hm).1), rfl, hb.trans (ht.below (fun m hm => (hM m hm).2) hb.size)⟩
  new := fun p vc vs vw lv ls W hg hP hl hz => by
    refine (tbnew_any p vc vs vw lv ls W (hG W hg) hP hl).mono ?_
    rintro e w' ⟨⟨_, cb, x, rfl, h⟩ | ⟨hn, _⟩, hb⟩
    · exact ⟨cb, _, rfl, x, h, rfl, hb⟩
    · exact absurd hz hn
  no := fun p vc vs vw lv ls W hg hP hl hz => by
    refine (tbnew_any p vc vs vw lv ls W (hG W hg) hP hl).mono ?_
    rintro e w' ⟨⟨h0, _⟩ | ⟨_, x, rfl⟩, hb⟩
    · exact absurd h0 hz
    · exact ⟨x, rfl, hb⟩
  ask := fun {w0 W p ls d cb F} i ⟨x, h, hF, hb⟩ _ _ => by
    subst hF
    refine (tbask_any p ls d cb _ x i W h).mono ?_
    rintro e w' ⟨rfl, h1, h2⟩
    exact ⟨rfl, _, ⟨x, h1, rfl, hb.trans (h2.below h.fge hb.size)⟩, h2, fun g hg => Or.inl hg⟩
  tick := fun {w0 W p ls d cb F} hg ⟨x, h, hF, hb⟩ hz hok ht => by
    subst hF
    refine (tbtick_any p ls d cb w0.heap.size x W h hb.size (fun W2 hb2 => (hG w0 hg).all (hb.trans hb2)) hz hok ht).mono ?_
    rintro e w' ⟨rfl, x', h1, h2, h3⟩
    exact ⟨rfl, _, ⟨x', h1, rfl, hb.trans (h2.below h.fge hb.size)⟩, h2, h3⟩
  now := fun {w0 W p ls d cb F} ⟨x, h, _, _⟩ hz hok => by
    obtain ⟨hn0, hn1, _⟩ := fchk_zero (plchk_zero (spanT_right hz hok)).2.2.1
    exact tbnow_any p ls d cb _ x W h hn0 hn1 hok.k.time
end Go.Proofs.YtfconbblnmbnpagGreatDoor
namespace Go.Proofs.YtfconbblnmbnpagGreatDoor
open Go.RowKit

set_option maxRecDepth 100000 in
set_option maxHeartbeats 4000000 in
theorem tbstate_any (p : PD) (ls : List (List S3)) (d : TbD) (cb base : Nat) (x : TW) (r : Int) (w : World) (h : GT w base p ls d cb x) :
    Calls Tryz.prog 11 #[.pointer (some ⟨cb, 0, none⟩), .int .i64 r] w fun e w' => e = .returned (.tuple #[stA (roomK d.k r), wErr (errB (noRoom d.k r))]) ∧ Below w.heap.size w w' := by
  have hB1 : Below w.heap.size w (w.alloc (.cells #[.int .i64 0, .int .i64 0, .int .i64 0, .int .i64 0, .int .i64 0, .int .i64 0, .int .i64 0, .bool false] 49)) := (Below.refl _ w).alloc (Nat.le_refl _) _
  have hbox : StB (w.alloc (.cells #[.int .i64 0, .int .i64 0, .int .i64 0, .int .i64 0, .int .i64 0, .int .i64 0, .int .i64 0, .bool false] 49)) w.heap.size stNew := World.alloc_heap_new w _
  generalize hW1 : w.alloc (.cells #[.int .i64 0, .int .i64 0, .int .i64 0, .int .i64 0, .int .i64 0, .int .i64 0, .int .i64 0, .bool false] 49) = W1 at hB1 hbox
  have D1 := h.all hB1
  have HS : Hid (Calls Tryz.prog 27 #[.pointer (some ⟨x.kb, 0, none⟩), .int .i64 r] W1 fun e w' => e = .returned (.tuple #[.agg #[.int .i64 (roomK d.k r).p, .int .i64 ((roomK d.k r).c 0), .int .i64 ((roomK d.k r).c 1), .int .i64 ((roomK d.k r).c 2), .int .i64 ((roomK d.k r).c 3), .int .i64 ((roomK d.k r).c 4), .int .i64 ((roomK d.k r).c 5), .bool (roomK d.k r).f], wErr (errB (noRoom d.k r))]) ∧ Below W1.heap.size W1 w') := gstate_any (withS p (listN ls d.now)) d.k x.kb base x.a r W1 D1.k
  have c0 := D1.c0
  clear h D1
  unfold stA
  generalize roomK d.k r = s at HS ⊢
  generalize wErr (errB (noRoom d.k r)) = ev at HS ⊢
  go_enter Tryz.func11, Tryz.ntmps11
  go_upto_region 1 with fail
  clear hW1
  go_wp2_with (go_at_call 27; refine HS.out.mono ?_; rintro e w1 ⟨rfl, b1⟩; have hst : StB w1 w.heap.size stNew := (b1.block _ (Array.getElem?_eq_some_iff.1 hbox).1).trans hbox; obtain ⟨m0, m1, m2, m3, m4, m5, m6, m7⟩ := hst.cs; simp only [Nat.zero_add] at m1 m2 m3 m4 m5 m6 m7; have z0 := stb_fz hst 0; have z1 := stb_fz hst 1; have z2 := stb_fz hst 2; have z3 := stb_fz hst 3; have z4 := stb_fz hst 4; have z5 := stb_fz hst 5; have z6 := stb_fz hst 6; have z7 := stb_fz hst 7)
  refine bodyPost_ret (v := .tuple #[.agg #[.int .i64 s.p, .int .i64 (s.c 0), .int .i64 (s.c 1), .int .i64 (s.c 2), .int .i64 (s.c 3), .int .i64 (s.c 4), .int .i64 (s.c 5), .bool s.f], ev]) ?_ rfl ⟨rfl, below_st8 (hB1.trans (b1.mono hB1.size)) _ (Nat.le_refl _) _ _ _ _ _ _ _ _⟩
  simp [results, Tryz.results11, go_sem, m0, m1, m2, m3, m4, m5, m6, m7]
theorem gtab_state {G : World → Prop} (hG : ∀ w, G w → Forms w) (hall : ∀ w w', G w → Below w.heap.size w w' → G w') : TabState (gtab hG hall) := fun {_ W p ls d cb _} r ⟨x, h, _, _⟩ _ _ => tbstate_any p ls d cb _ x r W h
end Go.Proofs.YtfconbblnmbnpagGreatDoor
