/-
  Package snap: Save. A kernel as a text, over what package kernel does.
-/
import Derived.Test.YtajfgmlockjmhaiGreatDoorJt8
import Derived.Test.YtajfgmlockjmhaiGreatDoorSnText
import Derived.Test.YtajfgmlockjmhaiGreatDoorJt3
import Derived.Test.YtajfgmlockjmhaiGreatDoorJt18
namespace Go.Proofs.YtajfgmlockjmhaiGreatDoor
open Go.RowKit

set_option maxRecDepth 1000000 in
set_option maxHeartbeats 8000000 in
theorem snp_save {G : World → Prop} (hF : ∀ w, G w → Forms w) (hP10 : ∀ w, G w → Pow10 w) (C : KerC G) (CW : KerWire C) (CT : KerTime C) : SnpSave C := by
  intro w0 W p vc vs vw k kb F uc us uw hG hK hP hp hk hs
  obtain ⟨ca, cc, rfl⟩ := hP.code.form
  obtain ⟨sa, sc, rfl⟩ := hP.spans.form
  obtain ⟨wa, wc, rfl⟩ := hP.wires.form
  have hx0 := Bx.first W (.slice ca p.code.length cc) p.ticks (.slice sa p.spans.length sc) (.slice wa p.wires.length wc)
  have hGW : G W := C.all _ _ hG (C.since hK)
  have HFm : Hid (∀ W', Below W.heap.size W W' → Pow10 W') := fun W' hb => hP10 _ (C.all _ _ hGW hb)
  have HCk : Hid (Calls Tryz.prog 34 #[.agg #[.slice ca p.code.length cc, .int .i64 p.ticks, .slice sa p.spans.length sc, .slice wa p.wires.length wc]] (W.alloc (.cells #[.slice ca p.code.length cc, .int .i64 p.ticks, .slice sa p.spans.length sc, .slice wa p.wires.length wc] 26)) fun e w' => e = .returned .nilIface ∧ Below (W.heap.size + 1) (W.alloc (.cells #[.slice ca p.code.length cc, .int .i64 p.ticks, .slice sa p.spans.length sc, .slice wa p.wires.length wc] 26)) w') := by
    have := plcheck_any p _ _ _ _ (hF _ (C.all _ _ hGW hx0.below)) (hP.all hx0.below)
    rw [hp, World.size_alloc] at this
    exact this
  have HAs : Hid (∀ W', Below W.heap.size W W' → Calls Tryz.prog 39 #[.int .i64 (p.code.length : Nat), .func (.func 32) #[.pointer (some ⟨kb, 0, none⟩)] #[]] W' fun e w' => ∃ ao cap, e = .returned (.tuple #[.slice ao p.code.length cap, .bool true]) ∧ w'.ownsRow W.heap.size 73 8 (.slice ao p.code.length cap) k.rooms.length (stCells k.rooms) ∧ Below W'.heap.size W' w') := fun W' hb => by
    have q := all_st C (C.frame hK (KTouch.of (M := []) hb) (fun m hm => (by cases hm))) hk hp
    rw [hk.rl] at q ⊢
    refine q.mono ?_
    rintro e w' ⟨v, rfl, h1, h2⟩
    obtain ⟨ao, cap, rfl⟩ := sl_form h1
    exact ⟨ao, cap, rfl, own_more hb.size h1, h2⟩
  have HAh : Hid (∀ W', Below W.heap.size W W' → Calls Tryz.prog 40 #[.int .i64 (p.wires.length : Nat), .func (.func 41) #[.pointer (some ⟨kb, 0, none⟩)] #[]] W' fun e w' => ∃ ao cap, e = .returned (.tuple #[.slice ao p.wires.length cap, .bool true]) ∧ (∃ us : List (Value × Int), us.length = k.lines.length ∧ w'.ownsRow W.heap.size 100 2 (.slice ao p.wires.length cap) us.length (hdCells us) ∧ ∀ (i : Nat) u l, us[i]? = some u → k.lines[i]? = some l → u.2 = l.ls ∧ Rd w' u.1 l.xs ∧ ∀ g, u.1.ownBlock = some g → W.heap.size ≤ g) ∧ Below W'.heap.size W' w') := fun W' hb => by
    have q := all_hd C CW (C.frame hK (KTouch.of (M := []) hb) (fun m hm => (by cases hm))) hk hp
    have e : k.lines.length = p.wires.length := hk.ll
    rw [e] at q
    refine q.mono ?_
    rintro e' w' ⟨v, us, rfl, h0, h1, h2, h3⟩
    obtain ⟨ao, cap, rfl⟩ := sl_form h1
    rw [h0] at h1 ⊢
    refine ⟨ao, cap, rfl, ⟨us, by rw [h0, e], by rw [h0]; exact own_more hb.size h1, fun i u l hu hl => ?_⟩, h3⟩
    obtain ⟨q1, q2, q3⟩ := h2 i u l hu hl
    exact ⟨q1, q2, fun g hg => Nat.le_trans hb.size (q3 g hg).1⟩
  have HTm : Hid (∀ W', Below W.heap.size W W' → Calls Tryz.prog 13 #[.pointer (some ⟨kb, 0, none⟩)] W' fun e w' => e = .returned (.int .i64 k.time) ∧ Below W'.heap.size W' w') := fun W' hb => by
    refine (CT (C.frame hK (KTouch.of (M := []) hb) (fun m hm => (by cases hm)))).mono ?_
    rintro e w' ⟨rfl, n, rfl⟩
    exact ⟨rfl, below_dN (Below.refl _ _) n⟩
  have HTx : Hid (∀ (W' : World) (us : List (Value × Int)) (ao bo : Option Addr) (n m c d : Nat), Below W.heap.size W W' → W'.ownsRow W.heap.size 73 8 (.slice ao n c) k.rooms.length (stCells k.rooms) → us.length = k.lines.length → W'.ownsRow W.heap.size 100 2 (.slice bo m d) us.length (hdCells us) → (∀ (i : Nat) u l, us[i]? = some u → k.lines[i]? = some l → u.2 = l.ls ∧ Rd W' u.1 l.xs ∧ ∀ g, u.1.ownBlock = some g → W.heap.size ≤ g) → Calls Tryz.prog 42 #[.agg #[.int .i64 k.time, .slice ao n c, .slice bo m d]] W' fun e w' => e = .returned (.string ⟨(snB k).toArray⟩) ∧ Below W'.heap.size W' w') := fun W' us ao bo n m c d hb h1 h2 h3 h4 =>
    text_any k _ _ us W.heap.size W' (HFm.out W' hb) ⟨h1, h3, h2, h4, hb.size⟩ hs
  have HX : Hid (∀ W', Below (W.heap.size + 1) (W.alloc (.cells #[.slice ca p.code.length cc, .int .i64 p.ticks, .slice sa p.spans.length sc, .slice wa p.wires.length wc] 26)) W' → W'.cell? ⟨W.heap.size, 0, none⟩ = some (.slice ca p.code.length cc) ∧ W'.cell? ⟨W.heap.size, 3, none⟩ = some (.slice wa p.wires.length wc) ∧ Below W.heap.size W W') := fun W' hb => ⟨Bx.c0 hb, Bx.c3 hb, Bx.below hb⟩
  have k0 := hx0.c0
  have k1 := hx0.c1
  have k2 := hx0.c2
  have k3 := hx0.c3
  unfold plV
  clear hP hp hk hs hK hG hGW
  go_enter Tryz.func10, Tryz.ntmps10
  go_wp2_with (first
    | (go_at_call 34; refine HCk.out.mono ?_; rintro e w1 ⟨rfl, b1⟩; obtain ⟨x0, x3, bb1⟩ := HX.out _ b1; have hs1 := b1.size; simp only [World.size_alloc] at hs1)
    | (go_at_call 39; refine (HAs.out _ bb1).mono ?_; rintro e w2 ⟨ao, c, rfl, own1, b2⟩; have b2' := b1.trans (b2.mono hs1); obtain ⟨y0, y3, bb2⟩ := HX.out _ b2'; clear x0 x3; have hs2 := b2.size)
    | (go_at_call 40; refine (HAh.out _ bb2).mono ?_; rintro e w3 ⟨bo, d, rfl, ⟨us, hul, own2, hat⟩, b3⟩; have own1' := own_block own1 (fun g hg => b3.block g (own1.lt g hg).2); have bb3 := bb2.trans (b3.mono bb2.size); clear y0 y3)
    | (go_at_call 13; refine (HTm.out _ bb3).mono ?_; rintro e w4 ⟨rfl, b4⟩; have own3 := own_block own1' (fun g hg => b4.block g (own1'.lt g hg).2); have own4 := own_block own2 (fun g hg => b4.block g (own2.lt g hg).2); have hat4 : ∀ (i : Nat) u l, us[i]? = some u → k.lines[i]? = some l → u.2 = l.ls ∧ Rd w4 u.1 l.xs ∧ ∀ g, u.1.ownBlock = some g → W.heap.size ≤ g := fun i u l h1 h2 => ⟨(hat i u l h1 h2).1, (hat i u l h1 h2).2.1.all b4, (hat i u l h1 h2).2.2⟩; have bb4 := bb3.trans (b4.mono bb3.size))
    | (go_at_call 42; refine (HTx.out w4 us ao bo _ _ c d bb4 own3 hul own4 hat4).mono ?_; rintro e w5 ⟨rfl, b5⟩))
  go_ret2
  exact ⟨rfl, bb4.trans (b5.mono bb4.size)⟩
end Go.Proofs.YtajfgmlockjmhaiGreatDoor
