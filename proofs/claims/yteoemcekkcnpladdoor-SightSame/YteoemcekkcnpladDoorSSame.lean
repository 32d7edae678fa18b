/-
  The law SightSame: the walk, under what packages kernel and sight do.
-/
import Derived.Test.YteoemcekkcnpladDoorJa12
import Derived.Test.YteoemcekkcnpladDoorStTwo
import Derived.Test.YteoemcekkcnpladDoorJa11
import Derived.Test.YteoemcekkcnpladDoorJa3
import Derived.Deep.CutRange
import Derived.Deep.CutBlock
import Derived.Deep.RegionWith
import Derived.Deep.RegionHeld3
import Derived.BigQuiet
import Derived.RangeFuncNested
namespace Go.Proofs.YteoemcekkcnpladDoor
open Go.RowKit

/-- The law's own plans: one room that rests; one that sets a cell. -/
def toyR : PD := ⟨[[(10, 0, 0)]], 1, [], []⟩
def toyS : PD := ⟨[[(1, 1, 4)]], 1, [(0, 1, 0)], []⟩
theorem toyR_ok : plchk toyR = 0 := by decide +kernel
theorem toyR_room : noRoom (newK toyR) 0 = false := by decide +kernel
theorem toyR_sees : seesK (newK toyR) 0 = [] := by decide +kernel
theorem toyS_run : runE toyS 1 0 = 0 := by decide +kernel
theorem toyS_two : ((statesK toyS 1 0)[1]?.map fun s => s.c 1) = some 4 := by decide +kernel
theorem toyR_pln (W : World) (n : Nat) (hn : n = W.heap.size) : Pln ((W.alloc (.cells #[.int .i64 10, .int .i64 0, .int .i64 0] 25)).alloc (.cells #[.slice (some ⟨n, 0, none⟩) 1 1] 26)) (.slice (some ⟨n + 1, 0, none⟩) 1 1) (.slice none 0 0) (.slice none 0 0) toyR := by
  subst hn
  refine ⟨Or.inr ⟨_, 0, 1, rfl, Nat.le_refl _, by simp, fun i c hi => ?_⟩, Or.inl ⟨rfl, _, _, rfl⟩, Or.inl ⟨rfl, _, _, rfl⟩⟩
  match i, hi with
  | 0, hi =>
    simp [toyR] at hi
    subst hi
    refine ⟨.slice (some ⟨W.heap.size, 0, none⟩) 1 1, by simp [go_sem], Or.inr ⟨W.heap.size, 0, 1, rfl, by simp; omega, fun j o ho => ?_⟩⟩
    match j, ho with
    | 0, ho => simp at ho; subst ho; simp [go_sem]
    | j + 1, ho => simp at ho
  | i + 1, hi => simp [toyR] at hi
theorem toyS_pln (W : World) (n : Nat) (hn : n = W.heap.size) : Pln (((W.alloc (.cells #[.int .i64 1, .int .i64 1, .int .i64 4] 25)).alloc (.cells #[.slice (some ⟨n, 0, none⟩) 1 1] 26)).alloc (.cells #[.int .i64 0, .int .i64 1, .int .i64 0] 42)) (.slice (some ⟨n + 1, 0, none⟩) 1 1) (.slice (some ⟨n + 2, 0, none⟩) 1 1) (.slice none 0 0) toyS := by
  subst hn
  refine ⟨Or.inr ⟨_, 0, 1, rfl, Nat.le_refl _, by simp, fun i c hi => ?_⟩, Or.inr ⟨_, 0, 1, rfl, Nat.le_refl _, by simp, fun i s hi => ?_⟩, Or.inl ⟨rfl, _, _, rfl⟩⟩
  · match i, hi with
    | 0, hi =>
      simp [toyS] at hi
      subst hi
      refine ⟨.slice (some ⟨W.heap.size, 0, none⟩) 1 1, by simp [go_sem], Or.inr ⟨W.heap.size, 0, 1, rfl, by simp; omega, fun j o ho => ?_⟩⟩
      match j, ho with
      | 0, ho => simp at ho; subst ho; simp [go_sem]
      | j + 1, ho => simp at ho
    | i + 1, hi => simp [toyS] at hi
  · match i, hi with
    | 0, hi => simp [toyS] at hi; subst hi; simp [go_sem]
    | i + 1, hi => simp [toyS] at hi
theorem sees_small {p : PD} {k : KD} (hk : KOk p k) (hp : plchk p = 0) (r : Int) : ShortH (seesK k r) ∧ (seesK k r).length ≤ 1000000 := by
  refine ⟨fun x hx => ?_, ?_⟩
  · unfold seesK at hx
    obtain ⟨l, hl, rfl⟩ := List.mem_map.1 hx
    have hl2 := (List.mem_filter.1 hl).1
    obtain ⟨i, hi⟩ := List.mem_iff_getElem?.1 hl2
    have hlt := (List.getElem?_eq_some_iff.1 hi).1
    have hx : p.wires[i]? = some (p.wires[i]'(by rw [← hk.ll]; exact hlt)) := List.getElem?_eq_getElem _
    have hlo := hk.lines i l _ hi hx
    rcases wchk_kind ((wschk_ok (plchk_zero hp).2.2.2.1).2 _ (List.mem_of_getElem? hx)) with ⟨h1, _⟩ | ⟨h1, h2, h3⟩
    · have := hlo.one h1
      show l.xs.length ≤ _
      omega
    · have := hlo.deep h1
      show l.xs.length ≤ _
      omega
  · unfold seesK
    rw [List.length_map]
    have h1 := List.length_filter_le (atR r) k.lines
    have h2 := hk.ll
    have h3 := (wschk_ok (plchk_zero hp).2.2.2.1).1
    omega
/-- The law's own first part: two small plans. -/
structure Toys {G : World → Prop} (C : KerC G) (w : World) : Prop where
  new : ∀ W n, Below w.heap.size w W → n = W.heap.size → Calls Tryd.prog 10 #[.agg #[.slice (some ⟨n + 1, 0, none⟩) 1 1, .int .i64 1, .slice none 0 0, .slice none 0 0]] ((W.alloc (.cells #[.int .i64 10, .int .i64 0, .int .i64 0] 25)).alloc (.cells #[.slice (some ⟨n, 0, none⟩) 1 1] 26)) fun e w2 => ∃ kb, e = .returned (.tuple #[.pointer (some ⟨kb, 0, none⟩), .nilIface]) ∧ Below W.heap.size W w2 ∧ ∀ m, m = w2.heap.size →
    Calls Tryd.prog 18 #[.pointer (some ⟨kb, 0, none⟩), .agg #[.slice (some ⟨m + 1, 0, none⟩) 1 1, .int .i64 1, .slice none 0 0, .slice none 0 0], .int .i64 0] ((w2.alloc (.cells #[.int .i64 10, .int .i64 0, .int .i64 0] 25)).alloc (.cells #[.slice (some ⟨m, 0, none⟩) 1 1] 26)) fun e w3 => ∃ (s : St) (ao : Option Addr) (cap : Nat), e = .returned (.tuple #[.agg #[.int .i64 s.p, .int .i64 (s.c 0), .int .i64 (s.c 1), .int .i64 (s.c 2), .int .i64 (s.c 3), .int .i64 (s.c 4), .int .i64 (s.c 5), .bool s.f], .slice ao 0 cap, .nilIface]) ∧ Below w2.heap.size w2 w3
  run : ∀ W n, Below w.heap.size w W → n = W.heap.size → Calls Tryd.prog 19 #[.agg #[.slice (some ⟨n + 1, 0, none⟩) 1 1, .int .i64 1, .slice (some ⟨n + 2, 0, none⟩) 1 1, .slice none 0 0], .int .i64 1, .int .i64 0] (((W.alloc (.cells #[.int .i64 1, .int .i64 1, .int .i64 4] 25)).alloc (.cells #[.slice (some ⟨n, 0, none⟩) 1 1] 26)).alloc (.cells #[.int .i64 0, .int .i64 1, .int .i64 0] 42)) fun e w2 => ∃ b off cap, e = .returned (.tuple #[.slice (some ⟨b, off, none⟩) 2 cap, .nilIface]) ∧ w2.cell? ⟨b, off + 10, none⟩ = some (.int .i64 4) ∧ Below W.heap.size W w2
theorem toys_of {G : World → Prop} (C : KerC G) (R : SgtRun G) (O : SgtOf C) (w : World) (hG : G w) : Toys C w := by
  refine ⟨fun W n hb hn => ?_, fun W n hb hn => ?_⟩
  · have hA : Below W.heap.size W ((W.alloc (.cells #[.int .i64 10, .int .i64 0, .int .i64 0] 25)).alloc (.cells #[.slice (some ⟨n, 0, none⟩) 1 1] 26)) := ((Below.refl _ _).alloc (Nat.le_refl _) _).alloc (by simp) _
    have hGW := C.all _ _ (C.all _ _ hG hb) hA
    refine (C.new toyR _ _ _ _ hGW (toyR_pln W n hn) toyR_ok).mono ?_
    rintro e w2 ⟨kb, F, rfl, hK⟩
    have hb2 := hA.trans ((C.since hK).mono hA.size)
    refine ⟨kb, rfl, hb2, fun m hm => ?_⟩
    have hB : Below w2.heap.size w2 ((w2.alloc (.cells #[.int .i64 10, .int .i64 0, .int .i64 0] 25)).alloc (.cells #[.slice (some ⟨m, 0, none⟩) 1 1] 26)) := ((Below.refl _ _).alloc (Nat.le_refl _) _).alloc (by simp) _
    have h := O (.slice (some ⟨m + 1, 0, none⟩) 1 1) (.slice none 0 0) (.slice none 0 0) 0 hGW (C.frame hK (KTouch.of (M := []) hB) (by simp)) (new_ok toyR_ok) toyR_ok (toyR_pln w2 m hm)
    refine h.mono ?_
    rintro e w3 ⟨v, rfl, h1, h2⟩
    rw [toyR_room, if_neg (by decide), toyR_sees] at h1
    obtain ⟨ao, cap, rfl⟩ := h1.form
    rw [toyR_room]
    exact ⟨_, ao, cap, rfl, hB.trans (h2.mono hB.size)⟩
  · have hA : Below W.heap.size W (((W.alloc (.cells #[.int .i64 1, .int .i64 1, .int .i64 4] 25)).alloc (.cells #[.slice (some ⟨n, 0, none⟩) 1 1] 26)).alloc (.cells #[.int .i64 0, .int .i64 1, .int .i64 0] 42)) := (((Below.refl _ _).alloc (Nat.le_refl _) _).alloc (by simp) _).alloc (by simp; omega) _
    have h := R toyS _ _ _ 1 0 _ (C.all _ _ (C.all _ _ hG hb) hA) (toyS_pln W n hn)
    rw [toyS_run, if_pos rfl] at h
    refine h.mono ?_
    rintro e w2 ⟨v, rfl, h1, h2⟩
    have hl : (statesK toyS (Int.toNat 1) (Int.toNat 0)).length = 2 := statesK_len _ _ _
    rcases h1 with ⟨h0, _⟩ | ⟨b, off, cap, h3, _, _, h4⟩
    · rw [h0] at hl
      cases hl
    · obtain ⟨s, hs, hs1⟩ := Option.map_eq_some_iff.1 toyS_two
      have h5 := (h4 1 s hs).c1
      rw [hs1] at h5
      exact ⟨b, off, cap, by rw [h3, hl]; rfl, h5, hA.trans (h2.mono hA.size)⟩
set_option maxRecDepth 100000 in
set_option maxHeartbeats 16000000 in
theorem ssame_of {G : World → Prop} (C : KerC G) (CP : KerPoke C) (R : SgtRun G) (O : SgtOf C) (p : PD) (vc vs vw : Value) (r n cell v : Int) (w : World) (hG : G w) (hP : Pln w vc vs vw p) :
    Calls Tryd.prog 6 #[plV vc p.ticks vs vw, .int .i64 r, .int .i64 n, .int .i64 cell, .int .i64 v] w fun e w' => e = .returned (.bool true) ∧ Below w.heap.size w w' := by
  obtain ⟨ca, cc, rfl⟩ := hP.code.form
  obtain ⟨sa, sc, rfl⟩ := hP.spans.form
  obtain ⟨wa, wc', rfl⟩ := hP.wires.form
  have hx0 := Bx.first w (.slice ca p.code.length cc) p.ticks (.slice sa p.spans.length sc) (.slice wa p.wires.length wc')
  have HP : Hid (Pln w (.slice ca p.code.length cc) (.slice sa p.spans.length sc) (.slice wa p.wires.length wc') p) := hP
  have HG : Hid (∀ W, Below w.heap.size w W → G W) := fun W hb => C.all w W hG hb
  have HT : Hid (Toys C w) := toys_of C R O w hG
  unfold plV
  clear hP hG
  go_enter Tryd.func6, Tryd.ntmps6
  go_upto_region 4 with (go_at_call 10; refine (HT.out.new (w.alloc (.cells #[.slice ca p.code.length cc, .int .i64 p.ticks, .slice sa p.spans.length sc, .slice wa p.wires.length wc'] 31)) (w.heap.size + 1) hx0.below (by simp)).mono ?_; rintro e w2 ⟨kb1, rfl, b2, q2⟩)
  have hx2 : Bx w w2 (.slice ca p.code.length cc) p.ticks (.slice sa p.spans.length sc) (.slice wa p.wires.length wc') := hx0.step b2
  clear b2
  go_upto_region 5 with (go_at_call 18; refine (q2 w2.heap.size rfl).mono ?_; clear q2; rintro e w3 ⟨s0, ao3, cap3, rfl, b3⟩)
  have hx3 : Bx w w3 (.slice ca p.code.length cc) p.ticks (.slice sa p.spans.length sc) (.slice wa p.wires.length wc') := hx2.step b3
  have hA3 : Below w3.heap.size w3 (w3.alloc (.cells #[.int .i64 s0.p, .int .i64 (s0.c 0), .int .i64 (s0.c 1), .int .i64 (s0.c 2), .int .i64 (s0.c 3), .int .i64 (s0.c 4), .int .i64 (s0.c 5), .bool s0.f] 48)) := (Below.refl _ _).alloc (Nat.le_refl _) _
  have hx4 := hx3.step hA3
  clear b3 hx2 hx3 hA3
  generalize w3.alloc (.cells #[.int .i64 s0.p, .int .i64 (s0.c 0), .int .i64 (s0.c 1), .int .i64 (s0.c 2), .int .i64 (s0.c 3), .int .i64 (s0.c 4), .int .i64 (s0.c 5), .bool s0.f] 48) = w4 at *
  go_upto_region 8 with (go_at_call 19; refine (HT.out.run w4 w4.heap.size hx4.below rfl).mono ?_; rintro e w5 ⟨b5, off5, cap5, rfl, hc5, bb5⟩)
  have hx5 := hx4.step bb5
  clear bb5 hx4 hc5
  have k0 := hx5.c0
  have k1 := hx5.c1
  have k2 := hx5.c2
  have k3 := hx5.c3
  by_cases hp : plchk p = 0
  case neg =>
    have HN : Hid (∀ W, Below w.heap.size w W → Calls Tryd.prog 10 #[.agg #[.slice ca p.code.length cc, .int .i64 p.ticks, .slice sa p.spans.length sc, .slice wa p.wires.length wc']] W fun e w' => ∃ x, e = .returned (.tuple #[.pointer x, .iface 71 (.int .i64 (plchk p))]) ∧ Below W.heap.size W w') := fun W hb => by
      have := C.no p _ _ _ W (HG.out W hb) (HP.out.all hb) hp
      rw [wErr_not hp] at this
      exact this
    generalize plchk p = z at HN hp
    go_wp2_with (first
      | (go_at_call 10; refine (HN.out w5 hx5.below).mono ?_; rintro e w6 ⟨x6, rfl, b6⟩; have hx6 := hx5.step b6; clear k0 k1 k2 k3; have k0 := hx6.c0; have k1 := hx6.c1; have k2 := hx6.c2; have k3 := hx6.c3)
      | (go_at_call 10; refine (HN.out w6 hx6.below).mono ?_; rintro e w7 ⟨x7, rfl, b7⟩; have hx7 := hx6.step b7))
    go_ret
    exact ⟨rfl, hx7.below⟩
  have HN : Hid (∀ W, Below w.heap.size w W → Calls Tryd.prog 10 #[.agg #[.slice ca p.code.length cc, .int .i64 p.ticks, .slice sa p.spans.length sc, .slice wa p.wires.length wc']] W fun e w' => ∃ kb F, e = .returned (.tuple #[.pointer (some ⟨kb, 0, none⟩), .nilIface]) ∧ C.K W w' p (.slice ca p.code.length cc) (.slice sa p.spans.length sc) (.slice wa p.wires.length wc') (newK p) kb F) := fun W hb => C.new p _ _ _ W (HG.out W hb) (HP.out.all hb) hp
  go_upto_region 10 with (first
    | (go_at_call 10; refine (HN.out w5 hx5.below).mono ?_; rintro e w6 ⟨kb, F, rfl, hK⟩; have hx6 := hx5.step (C.since hK); clear k0 k1 k2 k3; have k0 := hx6.c0; have k1 := hx6.c1; have k2 := hx6.c2; have k3 := hx6.c3)
    | (go_at_call 10; refine (HN.out w6 hx6.below).mono ?_; rintro e w7 ⟨mb, H, rfl, hM⟩; have hx7 := hx6.step (C.since hM)))
  have hkk := kk_new hp hK hM
  have HG5 : Hid (G w5) := HG.out w5 hx5.below
  have hs5 : w.heap.size + 1 ≤ w5.heap.size := hx5.size
  clear hK hM hx6 hx5 k0 k1 k2 k3 HN
  have k0 := hx7.c0
  by_cases hroom : 0 ≤ r ∧ r < (p.code.length : Int)
  case neg =>
    by_cases h1 : r < 0
    · have h1' : decide (r < 0) = true := decide_eq_true h1
      go_wp2
      go_ret
      exact ⟨rfl, hx7.below⟩
    · have h1' : decide (r < 0) = false := decide_eq_false h1
      have h2 : (p.code.length : Int) ≤ r := by omega
      go_wp2
      go_ret
      exact ⟨rfl, hx7.below⟩
  obtain ⟨rn, rfl⟩ : ∃ q : Nat, r = q := ⟨r.toNat, by omega⟩
  have hrn : rn < p.code.length := by omega
  have hn1 : decide ((rn : Int) < 0) = false := decide_eq_false (by omega)
  have hn2 : decide ((p.code.length : Int) ≤ (rn : Int)) = false := decide_eq_false (by omega)
  have hn3 : decide (p.code.length ≤ rn) = false := decide_eq_false (by omega)
  have hc5 := (plchk_zero hp).1
  have hl0 : (p.code.length : Int) ≠ 0 := by omega
  have hadd : (rn : Int) + 1 ≤ 9223372036854775807 := by omega
  go_upto_region 12 with fail
  go_cut [22] from 113 to 118 (fun s22 wx => s22 = .int .i64 (((rn + 1) % p.code.length : Nat) : Int) ∧ wx = w7)
  case first =>
    go_wp2_with fail
    go_meet
    case rel => exact ⟨by simp, rfl⟩
  case rest =>
  obtain ⟨rfl, hwx⟩ := hcut
  rw [hwx]
  clear hwx
  obtain ⟨on, hon⟩ : ∃ q, (rn + 1) % p.code.length = q := ⟨_, rfl⟩
  rw [hon]
  clear hon
  by_cases hor : on = rn
  case pos =>
    subst hor
    go_wp2
    go_ret
    exact ⟨rfl, hx7.below⟩
  have hor' : ((on : Int) == (rn : Int)) = false := beq_eq_false_iff_ne.2 (by omega)
  have hor2 : (on == rn) = false := by simpa using hor
  have HPk : Hid (Calls Tryd.prog 20 #[.pointer (some ⟨mb, 0, none⟩), .int .i64 on, .int .i64 cell, .int .i64 v] w7 fun e w' => e = .returned (wErr (pokeN (newK p) on cell v)) ∧ ∃ H', KK C w5 w' p (.slice ca p.code.length cc) (.slice sa p.spans.length sc) (.slice wa p.wires.length wc') (newK p) (pokeK (newK p) on cell v) kb mb F H' ∧ KTouch H w7 w' ∧ ∀ g ∈ F ++ H', g ∈ F ++ H ∨ w7.heap.size ≤ g) := kk_poke CP hp on cell v hkk
  have hHge : ∀ g ∈ H, w.heap.size + 1 ≤ g := fun g hg => by
    have := (C.ge hkk.M g hg).1
    omega
  cases hpb : pokeB (newK p) on cell v with
  | true =>
    have hpn : pokeN (newK p) on cell v = 1 := by unfold pokeN; rw [hpb, if_pos rfl]
    rw [hpn] at HPk
    have HPk' : Hid (Calls Tryd.prog 20 #[.pointer (some ⟨mb, 0, none⟩), .int .i64 on, .int .i64 cell, .int .i64 v] w7 fun e w' => e = .returned (.iface 71 (.int .i64 1)) ∧ KTouch H w7 w') := HPk.out.mono (by
      rintro e w' ⟨rfl, H', _, h2, _⟩
      exact ⟨rfl, h2⟩)
    clear HPk hkk hpn hpb
    go_wp2_with (go_at_call 20; refine HPk'.out.mono ?_; rintro e w8 ⟨rfl, tk8⟩)
    go_ret
    exact ⟨rfl, (Below.trans hx7 (tk8.below hHge hx7.size)).mono (Nat.le_succ _) |> fun h => ((Below.refl _ w).alloc (Nat.le_refl _) _).trans h⟩
  | false =>
  have hpn : pokeN (newK p) on cell v = 0 := by unfold pokeN; rw [hpb, if_neg (by decide)]
  rw [hpn] at HPk
  obtain ⟨e1, e2, e3⟩ := poke_other (p := p) (r := rn) (by omega) hpb
  have HPk' : Hid (Calls Tryd.prog 20 #[.pointer (some ⟨mb, 0, none⟩), .int .i64 on, .int .i64 cell, .int .i64 v] w7 fun e w' => e = .returned .nilIface ∧ ∃ m H', KK C w5 w' p (.slice ca p.code.length cc) (.slice sa p.spans.length sc) (.slice wa p.wires.length wc') (newK p) m kb mb F H' ∧ m.time = 0 ∧ StSame (roomK (newK p) rn) (roomK m rn) ∧ seesK (newK p) rn = seesK m rn ∧ Bx w w' (.slice ca p.code.length cc) p.ticks (.slice sa p.spans.length sc) (.slice wa p.wires.length wc')) := HPk.out.mono (by
    rintro e w' ⟨rfl, H', h1, h2, _⟩
    refine ⟨rfl, _, H', h1, by rw [e3]; rfl, ?_, ?_, Below.trans hx7 (h2.below hHge hx7.size)⟩
    · have e4 : roomK (pokeK (newK p) on cell v) rn = roomK (newK p) rn := by
        have hl : (pokeK (newK p) on cell v).rooms.length = (newK p).rooms.length := by rw [h1.ok'.rl, h1.ok.rl]
        unfold roomK noRoom
        rw [hl]
        simp only [Int.toNat_natCast, List.getD, e1]
      rw [e4]
      exact StSame.refl _
    · unfold seesK
      rw [e2])
  clear HPk hkk hpn hpb e1 e2 e3 hHge hn1 hn2 hn3 hadd
  go_upto_region 15 with (go_at_call 20; refine HPk'.out.mono ?_; rintro e w8 ⟨rfl, m8, H8, hkk8, htm8, hsm8, hse8, hx8⟩)
  clear HPk' hx7 k0
  go_wp2
  go_loopw [23] (fun s23 wr => ∃ (i : Nat) (k m : KD) (F H : List Nat), i ≤ 80 ∧ s23 = .int .i64 i ∧ k.time = i ∧ m.time = i ∧ (i = 0 → StSame (roomK k rn) (roomK m rn) ∧ seesK k rn = seesK m rn) ∧ KK C w5 wr p (.slice ca p.code.length cc) (.slice sa p.spans.length sc) (.slice wa p.wires.length wc') k m kb mb F H ∧ Bx w wr (.slice ca p.code.length cc) p.ticks (.slice sa p.spans.length sc) (.slice wa p.wires.length wc')) (fun s _ => 80 - (intOf s).toNat)
  case atStart => exact ⟨0, newK p, m8, F, H8, Nat.zero_le _, rfl, rfl, htm8, fun _ => ⟨hsm8, hse8⟩, hkk8, hx8⟩
  case round =>
  clear hkk8 htm8 hsm8 hse8 hx8
  obtain ⟨i, k, m, F1, H1, hi, rfl, htk, htm, hsame, hkk, hx⟩ := hrel
  by_cases hin : (i : Int) < n
  case neg =>
    have hin' : decide ((i : Int) < n) = false := decide_eq_false hin
    clear hkk hsame
    go_wp2
    go_ret
    exact ⟨rfl, hx.below⟩
  by_cases hi80 : i < 80
  case neg =>
    obtain rfl : i = 80 := by omega
    rw [show ((80 : Nat) : Int) = 80 from rfl] at hin
    clear hkk hsame
    go_wp2
    go_ret
    exact ⟨rfl, hx.below⟩
  have hi8 : (i : Int) < 80 := by omega
  rename World => wA
  have HSm : Hid (i = 0 → StSame (roomK k rn) (roomK m rn) ∧ seesK k rn = seesK m rn) := hsame
  clear hsame
  have hrl : ∀ q : KD, KOk p q → noRoom q rn = false := fun q hq => by
    unfold noRoom
    rw [Bool.or_eq_false_iff, hq.rl]
    exact ⟨decide_eq_false (by omega), decide_eq_false (by omega)⟩
  have HOf : Hid (∀ (W : World) (q : KD) (qb : Nat) (Fq : List Nat), C.K w5 W p (.slice ca p.code.length cc) (.slice sa p.spans.length sc) (.slice wa p.wires.length wc') q qb Fq → KOk p q → Bx w W (.slice ca p.code.length cc) p.ticks (.slice sa p.spans.length sc) (.slice wa p.wires.length wc') → Calls Tryd.prog 18 #[.pointer (some ⟨qb, 0, none⟩), .agg #[.slice ca p.code.length cc, .int .i64 p.ticks, .slice sa p.spans.length sc, .slice wa p.wires.length wc'], .int .i64 rn] W fun e w' => ∃ (s : St) (ao : Option Addr) (l cap : Nat), e = .returned (.tuple #[.agg #[.int .i64 s.p, .int .i64 (s.c 0), .int .i64 (s.c 1), .int .i64 (s.c 2), .int .i64 (s.c 3), .int .i64 (s.c 4), .int .i64 (s.c 5), .bool s.f], .slice ao l cap, .nilIface]) ∧ s = roomK q rn ∧ HdL w' (.slice ao l cap) (seesK q rn) ∧ Below W.heap.size W w') := fun W q qb Fq hK hq hxW => by
    have h1 := O (.slice ca p.code.length cc) (.slice sa p.spans.length sc) (.slice wa p.wires.length wc') rn HG5.out hK hq hp (HP.out.all hxW.below)
    refine h1.mono ?_
    rintro e w' ⟨v, rfl, h2, h3⟩
    rw [hrl q hq, if_neg (by decide)] at h2
    obtain ⟨ao, cap, rfl⟩ := h2.form
    rw [hrl q hq]
    exact ⟨_, _, _, _, rfl, rfl, h2, h3⟩
  have k0 := hx.c0
  have k1 := hx.c1
  have k2 := hx.c2
  have k3 := hx.c3
  obtain ⟨s, hs⟩ : ∃ s, s = roomK k rn := ⟨_, rfl⟩
  obtain ⟨t, ht⟩ : ∃ t, t = roomK m rn := ⟨_, rfl⟩
  have hHOk : ∀ W, Below wA.heap.size wA W → Calls Tryd.prog 18 #[.pointer (some ⟨kb, 0, none⟩), .agg #[.slice ca p.code.length cc, .int .i64 p.ticks, .slice sa p.spans.length sc, .slice wa p.wires.length wc'], .int .i64 rn] W fun e w' => ∃ (ao : Option Addr) (l cap : Nat), e = .returned (.tuple #[.agg #[.int .i64 s.p, .int .i64 (s.c 0), .int .i64 (s.c 1), .int .i64 (s.c 2), .int .i64 (s.c 3), .int .i64 (s.c 4), .int .i64 (s.c 5), .bool s.f], .slice ao l cap, .nilIface]) ∧ HdL w' (.slice ao l cap) (seesK k rn) ∧ Below W.heap.size W w' := fun W hb => by
    refine (HOf.out W k kb F1 (hkk.all hb).K hkk.ok (hx.step hb)).mono ?_
    rintro e w' ⟨s', ao, l, cap, rfl, rfl, h2, h3⟩
    rw [hs]
    exact ⟨_, _, _, rfl, h2, h3⟩
  have hHOm : ∀ W, Below wA.heap.size wA W → Calls Tryd.prog 18 #[.pointer (some ⟨mb, 0, none⟩), .agg #[.slice ca p.code.length cc, .int .i64 p.ticks, .slice sa p.spans.length sc, .slice wa p.wires.length wc'], .int .i64 rn] W fun e w' => ∃ (ao : Option Addr) (l cap : Nat), e = .returned (.tuple #[.agg #[.int .i64 t.p, .int .i64 (t.c 0), .int .i64 (t.c 1), .int .i64 (t.c 2), .int .i64 (t.c 3), .int .i64 (t.c 4), .int .i64 (t.c 5), .bool t.f], .slice ao l cap, .nilIface]) ∧ HdL w' (.slice ao l cap) (seesK m rn) ∧ Below W.heap.size W w' := fun W hb => by
    refine (HOf.out W m mb H1 (hkk.all hb).M hkk.ok' (hx.step hb)).mono ?_
    rintro e w' ⟨s', ao, l, cap, rfl, rfl, h2, h3⟩
    rw [ht]
    exact ⟨_, _, _, rfl, h2, h3⟩
  have HOk : Hid (∀ W, Below wA.heap.size wA W → Calls Tryd.prog 18 #[.pointer (some ⟨kb, 0, none⟩), .agg #[.slice ca p.code.length cc, .int .i64 p.ticks, .slice sa p.spans.length sc, .slice wa p.wires.length wc'], .int .i64 rn] W fun e w' => ∃ (ao : Option Addr) (l cap : Nat), e = .returned (.tuple #[.agg #[.int .i64 s.p, .int .i64 (s.c 0), .int .i64 (s.c 1), .int .i64 (s.c 2), .int .i64 (s.c 3), .int .i64 (s.c 4), .int .i64 (s.c 5), .bool s.f], .slice ao l cap, .nilIface]) ∧ HdL w' (.slice ao l cap) (seesK k rn) ∧ Below W.heap.size W w') := hHOk
  have HOm : Hid (∀ W, Below wA.heap.size wA W → Calls Tryd.prog 18 #[.pointer (some ⟨mb, 0, none⟩), .agg #[.slice ca p.code.length cc, .int .i64 p.ticks, .slice sa p.spans.length sc, .slice wa p.wires.length wc'], .int .i64 rn] W fun e w' => ∃ (ao : Option Addr) (l cap : Nat), e = .returned (.tuple #[.agg #[.int .i64 t.p, .int .i64 (t.c 0), .int .i64 (t.c 1), .int .i64 (t.c 2), .int .i64 (t.c 3), .int .i64 (t.c 4), .int .i64 (t.c 5), .bool t.f], .slice ao l cap, .nilIface]) ∧ HdL w' (.slice ao l cap) (seesK m rn) ∧ Below W.heap.size W w') := hHOm
  have HST : Hid (s = roomK k rn ∧ t = roomK m rn) := ⟨hs, ht⟩
  have HKK : Hid (KK C w5 wA p (.slice ca p.code.length cc) (.slice sa p.spans.length sc) (.slice wa p.wires.length wc') k m kb mb F1 H1) := hkk
  clear hHOk hHOm hs ht hkk
  go_upto_region 19 with (go_at_call 18; refine (HOk.out wA (Below.refl _ _)).mono ?_; rintro e w2 ⟨ao2, l2, cap2, rfl, hh2, b2⟩)
  have bA : Below wA.heap.size wA (w2.alloc (.cells #[.int .i64 s.p, .int .i64 (s.c 0), .int .i64 (s.c 1), .int .i64 (s.c 2), .int .i64 (s.c 3), .int .i64 (s.c 4), .int .i64 (s.c 5), .bool s.f] 48)) := b2.alloc b2.size _
  have hsA : StB (w2.alloc (.cells #[.int .i64 s.p, .int .i64 (s.c 0), .int .i64 (s.c 1), .int .i64 (s.c 2), .int .i64 (s.c 3), .int .i64 (s.c 4), .int .i64 (s.c 5), .bool s.f] 48)) w2.heap.size s := World.alloc_heap_new _ _
  have hh2' := hh2.all ((Below.refl _ w2).alloc (Nat.le_refl _) (.cells #[.int .i64 s.p, .int .i64 (s.c 0), .int .i64 (s.c 1), .int .i64 (s.c 2), .int .i64 (s.c 3), .int .i64 (s.c 4), .int .i64 (s.c 5), .bool s.f] 48))
  have hA2 : wA.heap.size ≤ w2.heap.size := b2.size
  clear b2 hh2 k0 k1 k2 k3
  generalize w2.alloc (.cells #[.int .i64 s.p, .int .i64 (s.c 0), .int .i64 (s.c 1), .int .i64 (s.c 2), .int .i64 (s.c 3), .int .i64 (s.c 4), .int .i64 (s.c 5), .bool s.f] 48) = W3 at *
  generalize w2.heap.size = bk at *
  have k0 := (hx.step bA).c0
  have k1 := (hx.step bA).c1
  have k2 := (hx.step bA).c2
  have k3 := (hx.step bA).c3
  go_upto_region 20 with (go_at_call 18; refine (HOm.out W3 bA).mono ?_; rintro e w4 ⟨ao4, l4, cap4, rfl, hh4, b4⟩)
  have bB0 : Below W3.heap.size W3 (w4.alloc (.cells #[.int .i64 t.p, .int .i64 (t.c 0), .int .i64 (t.c 1), .int .i64 (t.c 2), .int .i64 (t.c 3), .int .i64 (t.c 4), .int .i64 (t.c 5), .bool t.f] 48)) := b4.alloc b4.size _
  have hsB : StB (w4.alloc (.cells #[.int .i64 t.p, .int .i64 (t.c 0), .int .i64 (t.c 1), .int .i64 (t.c 2), .int .i64 (t.c 3), .int .i64 (t.c 4), .int .i64 (t.c 5), .bool t.f] 48)) w4.heap.size t := World.alloc_heap_new _ _
  have hh4' := hh4.all ((Below.refl _ w4).alloc (Nat.le_refl _) (.cells #[.int .i64 t.p, .int .i64 (t.c 0), .int .i64 (t.c 1), .int .i64 (t.c 2), .int .i64 (t.c 3), .int .i64 (t.c 4), .int .i64 (t.c 5), .bool t.f] 48))
  have hA4 : W3.heap.size ≤ w4.heap.size := b4.size
  clear b4 hh4 k0 k1 k2 k3
  generalize w4.alloc (.cells #[.int .i64 t.p, .int .i64 (t.c 0), .int .i64 (t.c 1), .int .i64 (t.c 2), .int .i64 (t.c 3), .int .i64 (t.c 4), .int .i64 (t.c 5), .bool t.f] 48) = W5 at *
  generalize w4.heap.size = bm at *
  have hsA5 : StB W5 bk s := (bB0.block _ (Array.getElem?_eq_some_iff.1 hsA).1).trans hsA
  have hh2'' := hh2'.all bB0
  have bB : Below wA.heap.size wA W5 := bA.trans (bB0.mono bA.size)
  have hbkm : bk < bm := Nat.lt_of_lt_of_le (Array.getElem?_eq_some_iff.1 hsA).1 hA4
  clear hsA hh2' bB0 bA
  obtain ⟨u0, u1, u2, u3, u4, u5, u6, u7⟩ := hsA5.cs
  obtain ⟨v0, v1, v2, v3, v4, v5, v6, v7⟩ := hsB.cs
  simp only [Nat.zero_add] at u1 u2 u3 u4 u5 u6 u7 v1 v2 v3 v4 v5 v6 v7
  have hsh := sees_small HKK.out.ok hp rn
  have HHd : Hid (Calls Tryd.prog 21 #[.slice ao2 l2 cap2, .slice ao4 l4 cap4] W5 fun e w' => e = .returned (.bool (decide (seesK k rn = seesK m rn))) ∧ Below W5.heap.size W5 w') := helds2_any _ _ _ _ W5 hh2'' hh4' hsh.2 hsh.1
  clear hsh hh2'' hh4'
  have hgd := guardSt
  have hnq := neq_st2 s t
  go_upto_region 22 with fail
  go_cut [169] from 161 to 168 (fun s169 wx => s169 = .bool (!(sameS s t && decide (seesK k rn = seesK m rn))) ∧ Below W5.heap.size W5 wx)
  case first =>
    cases hss : sameS s t with
    | false =>
      rw [hss] at hnq
      go_wp2_with fail
      go_meet
      case rel => exact ⟨by rw [hss]; rfl, Below.refl _ _⟩
    | true =>
      rw [hss] at hnq
      obtain ⟨qd, hqd⟩ : ∃ q, decide (seesK k rn = seesK m rn) = q := ⟨_, rfl⟩
      rw [hqd] at HHd
      have HQD : Hid (sameS s t = true ∧ decide (seesK k rn = seesK m rn) = qd) := ⟨hss, hqd⟩
      clear hss hqd
      go_wp2_with (go_at_call 21; refine HHd.out.mono ?_; rintro e w6 ⟨rfl, b6⟩)
      go_meet
      case rel => exact ⟨by rw [HQD.out.1, HQD.out.2, Bool.true_and], b6⟩
  case rest =>
  obtain ⟨rfl, b6⟩ := hcut
  clear u0 u1 u2 u3 u4 u5 u6 u7 v0 v1 v2 v3 v4 v5 v6 v7 HHd hnq
  generalize wc = W6 at *
  have hbig : (sameS s t && decide (seesK k rn = seesK m rn)) = true ∨ (sameS s t && decide (seesK k rn = seesK m rn)) = false := by
    cases (sameS s t && decide (seesK k rn = seesK m rn)) <;> simp
  rcases hbig with hbig | hbig
  case inr =>
    have hi0 : (0 : Int) < (i : Int) := by
      rcases Nat.eq_zero_or_pos i with h0 | h0
      · exfalso
        obtain ⟨h1, h2⟩ := HSm.out h0
        rw [← HST.out.1, ← HST.out.2] at h1
        rw [sameS_iff.2 h1, decide_eq_true h2] at hbig
        cases hbig
      · omega
    have hi0n : decide (0 < i) = true := decide_eq_true (by omega)
    rw [hbig]
    go_wp2
    go_ret
    exact ⟨rfl, (hx.step (bB.trans (b6.mono bB.size))).below⟩
  rw [hbig]
  rw [Bool.and_eq_true] at hbig
  have HSS : Hid (StSame s t ∧ seesK k rn = seesK m rn) := ⟨sameS_iff.1 hbig.1, of_decide_eq_true hbig.2⟩
  clear hbig
  have b6w : Below wA.heap.size wA W6 := bB.trans (b6.mono bB.size)
  have hx6 := hx.step b6w
  have hkk6 := HKK.out.all b6w
  have hsA6 : StB W6 bk s := (b6.block _ (Array.getElem?_eq_some_iff.1 hsA5).1).trans hsA5
  have hsB6 : StB W6 bm t := (b6.block _ (Array.getElem?_eq_some_iff.1 hsB).1).trans hsB
  have hbkF : bk ∉ F1 ++ H1 := fun hm => by have := (HKK.out.lt bk hm).2; omega
  have hbmF : bm ∉ F1 ++ H1 := fun hm => by have := (HKK.out.lt bm hm).2; omega
  have hw5b : w5.heap.size ≤ wA.heap.size := (C.since HKK.out.K).size
  clear b6 bB hsA5 hsB hx b6w HOk HOm
  have hT := kk_tick HG5.out hp (by rw [htk]; omega) (by rw [htm]; omega) hkk6
  obtain ⟨e1, e2⟩ := tick_told p k
  obtain ⟨e3, e4⟩ := tick_told p m
  have hwho : whoK p m = whoK p k := by unfold whoK; rw [htk, htm]
  rw [hwho] at e4
  rw [htk] at e1
  rw [htm] at e3
  obtain ⟨wh, hwh⟩ : ∃ x, whoK p k = x := ⟨_, rfl⟩
  rw [hwh] at e2 e4
  obtain ⟨ak, hak⟩ : ∃ x, (tickK p p.spans k).2.2.2.1 = x := ⟨_, rfl⟩
  obtain ⟨qk, hqk⟩ : ∃ x, (tickK p p.spans k).2.2.2.2 = x := ⟨_, rfl⟩
  obtain ⟨am, ham⟩ : ∃ x, (tickK p p.spans m).2.2.2.1 = x := ⟨_, rfl⟩
  obtain ⟨qm, hqm⟩ : ∃ x, (tickK p p.spans m).2.2.2.2 = x := ⟨_, rfl⟩
  unfold evA at hT
  simp only [e1, e2, e3, e4, hak, hqk, ham, hqm] at hT
  have hlenk : rn < k.rooms.length := by rw [HKK.out.ok.rl]; exact hrn
  have hlenm : rn < m.rooms.length := by rw [HKK.out.ok'.rl]; exact hrn
  have hrk : ∀ q : KD, KOk p q → q.rooms[rn]? = some (roomK q rn) := fun q hq => by
    have hlt : rn < q.rooms.length := by rw [hq.rl]; exact hrn
    unfold roomK
    rw [hrl q hq, if_neg (by decide), Int.toNat_natCast]
    simp [List.getD, hlt]
  have HSame : Hid (wh = (rn : Int) → ak = am ∧ qk = qm ∧ StSame (roomK (tickK p p.spans k).1 rn) (roomK (tickK p p.spans m).1 rn)) := fun hw => by
    have h1 := tick_same hp HKK.out.ok HKK.out.ok' (by rw [htk, htm]) hrn (hrk k HKK.out.ok) (hrk m HKK.out.ok') (by rw [← HST.out.1, ← HST.out.2]; exact HSS.out.1) HSS.out.2
    obtain ⟨h2, s', t', h3, h4, h5⟩ := h1.2 (by rw [e2]; exact hw)
    have h6 := hrk _ (tick_ok hp HKK.out.ok)
    have h7 := hrk _ (tick_ok hp HKK.out.ok')
    rw [h3] at h6
    rw [h4] at h7
    obtain rfl := Option.some.inj h6
    obtain rfl := Option.some.inj h7
    refine ⟨by rw [← hak, ← ham, h2], by rw [← hqk, ← hqm, h2], h5⟩
  have HTm : Hid ((tickK p p.spans k).1.time = ((i + 1 : Nat) : Int) ∧ (tickK p p.spans m).1.time = ((i + 1 : Nat) : Int)) := by
    refine ⟨?_, ?_⟩
    · rw [tick_time, htk]
      omega
    · rw [tick_time, htm]
      omega
  clear hak hqk ham hqm e1 e2 e3 e4 hwho hwh hlenk hlenm hkk6 HSm
  generalize (tickK p p.spans k).1 = k' at *
  generalize (tickK p p.spans m).1 = m' at *
  have HT6 : Hid (Calls Tryd.prog 11 #[.pointer (some ⟨kb, 0, none⟩)] W6 fun e w2 => e = .returned (.agg #[.int .i64 i, .int .i64 wh, .int .i64 ak, .int .i64 qk]) ∧ KTouch (F1 ++ H1) W6 w2 ∧ ∀ w3, Below w2.heap.size w2 w3 → Calls Tryd.prog 11 #[.pointer (some ⟨mb, 0, none⟩)] w3 fun e w' => e = .returned (.agg #[.int .i64 i, .int .i64 wh, .int .i64 am, .int .i64 qm]) ∧ ∃ F' H', KWent C w5 W6 w' p (.slice ca p.code.length cc) (.slice sa p.spans.length sc) (.slice wa p.wires.length wc') k' m' kb mb F1 H1 F' H' ∧ KTouch (F1 ++ H1) w3 w') := hT
  clear hT
  go_upto_region 25 with (go_at_call 11; refine HT6.out.mono ?_; rintro e w7 ⟨rfl, tk7, q8⟩)
  have hE7 : Below w7.heap.size w7 (w7.alloc (.cells #[.int .i64 i, .int .i64 wh, .int .i64 ak, .int .i64 qk] 44)) := (Below.refl _ _).alloc (Nat.le_refl _) _
  have hev1 : EvB (w7.alloc (.cells #[.int .i64 i, .int .i64 wh, .int .i64 ak, .int .i64 qk] 44)) w7.heap.size i wh ak qk := World.alloc_heap_new _ _
  have q8' := q8 _ hE7
  have hs7 : W6.heap.size ≤ w7.heap.size := tk7.size
  clear q8 tk7 hE7
  generalize hW8 : w7.alloc (.cells #[.int .i64 i, .int .i64 wh, .int .i64 ak, .int .i64 qk] 44) = W8 at *
  generalize w7.heap.size = be1 at *
  have HQ8 : Hid (Calls Tryd.prog 11 #[.pointer (some ⟨mb, 0, none⟩)] W8 fun e w' => e = .returned (.agg #[.int .i64 i, .int .i64 wh, .int .i64 am, .int .i64 qm]) ∧ ∃ F' H', KWent C w5 W6 w' p (.slice ca p.code.length cc) (.slice sa p.spans.length sc) (.slice wa p.wires.length wc') k' m' kb mb F1 H1 F' H' ∧ KTouch (F1 ++ H1) W8 w') := q8'
  clear q8' hW8
  go_upto_region 26 with (go_at_call 11; refine HQ8.out.mono ?_; rintro e w9 ⟨rfl, F2, H2, hw9, tk9⟩)
  have hF1lt : ∀ g ∈ F1 ++ H1, g < wA.heap.size := fun g hg => (HKK.out.lt g hg).2
  have hbe1 : be1 < W8.heap.size := hev1.lt
  have hlA := (Array.getElem?_eq_some_iff.1 hsA6).1
  have hlB := (Array.getElem?_eq_some_iff.1 hsB6).1
  have hev1' : EvB w9 be1 i wh ak qk := (tk9.block _ hbe1 (fun hm => by have := hF1lt be1 hm; omega)).trans hev1
  obtain ⟨hkA, hnA⟩ := hw9.keep hlA hbkF
  obtain ⟨hkB, hnB⟩ := hw9.keep hlB hbmF
  have hsA9 : StB w9 bk s := hkA.trans hsA6
  have hsB9 : StB w9 bm t := hkB.trans hsB6
  have hx9 : Bx w w9 (.slice ca p.code.length cc) p.ticks (.slice sa p.spans.length sc) (.slice wa p.wires.length wc') := Below.trans hx6 (hw9.touch.below (fun g hg => by have := (HKK.out.lt g hg).1; omega) hx6.size)
  have hkk9 := hw9.kk
  have hE9 : Below w9.heap.size w9 (w9.alloc (.cells #[.int .i64 i, .int .i64 wh, .int .i64 am, .int .i64 qm] 44)) := (Below.refl _ _).alloc (Nat.le_refl _) _
  have hev2 : EvB (w9.alloc (.cells #[.int .i64 i, .int .i64 wh, .int .i64 am, .int .i64 qm] 44)) w9.heap.size i wh am qm := World.alloc_heap_new _ _
  have hev1b : EvB (w9.alloc (.cells #[.int .i64 i, .int .i64 wh, .int .i64 am, .int .i64 qm] 44)) be1 i wh ak qk := (hE9.block _ hev1'.lt).trans hev1'
  have hsA10 : StB (w9.alloc (.cells #[.int .i64 i, .int .i64 wh, .int .i64 am, .int .i64 qm] 44)) bk s := (hE9.block _ (Array.getElem?_eq_some_iff.1 hsA9).1).trans hsA9
  have hsB10 : StB (w9.alloc (.cells #[.int .i64 i, .int .i64 wh, .int .i64 am, .int .i64 qm] 44)) bm t := (hE9.block _ (Array.getElem?_eq_some_iff.1 hsB9).1).trans hsB9
  have hx10 := hx9.step hE9
  have hkk10 := hkk9.all hE9
  clear hw9 tk9 hkA hkB hsA9 hsB9 hx9 hkk9 hev1' hev1 hE9 hsA6 hsB6 hlA hlB hx6 HQ8 HT6 hs7
  generalize w9.alloc (.cells #[.int .i64 i, .int .i64 wh, .int .i64 am, .int .i64 qm] 44) = W10 at *
  generalize w9.heap.size = be2 at *
  have HK10 : Hid (KK C w5 W10 p (.slice ca p.code.length cc) (.slice sa p.spans.length sc) (.slice wa p.wires.length wc') k' m' kb mb F2 H2) := hkk10
  clear hkk10
  obtain ⟨g0, g1, g2, g3⟩ := hev1b.cs
  obtain ⟨f0, f1, f2, f3⟩ := hev2.cs
  by_cases hw : wh = (rn : Int)
  case neg =>
    have hwb : (wh == (rn : Int)) = false := by simpa using hw
    have hwn : (wh != (rn : Int)) = true := by simpa using hw
    go_wp2
    go_roundw
    case rel => exact ⟨i + 1, k', m', F2, H2, by omega, by go_num, HTm.out.1, HTm.out.2, fun h0 => by omega, HK10.out, hx10⟩
    case measure => simp [intOf]; omega
  obtain ⟨rfl, rfl, hst⟩ := HSame.out hw
  subst hw
  have hge := guardEv
  have hne := neq_ev i rn ak qk
  obtain ⟨s1, hs1⟩ : ∃ x, x = roomK k' rn := ⟨_, rfl⟩
  obtain ⟨t1, ht1⟩ : ∃ x, x = roomK m' rn := ⟨_, rfl⟩
  rw [← hs1, ← ht1] at hst
  have hw5m : w5.heap.size ≤ bk ∧ w5.heap.size ≤ bm := by omega
  have HO1 : Hid (Calls Tryd.prog 18 #[.pointer (some ⟨kb, 0, none⟩), .agg #[.slice ca p.code.length cc, .int .i64 p.ticks, .slice sa p.spans.length sc, .slice wa p.wires.length wc'], .int .i64 rn] W10 fun e w' => ∃ (ao : Option Addr) (l cap : Nat), e = .returned (.tuple #[.agg #[.int .i64 s1.p, .int .i64 (s1.c 0), .int .i64 (s1.c 1), .int .i64 (s1.c 2), .int .i64 (s1.c 3), .int .i64 (s1.c 4), .int .i64 (s1.c 5), .bool s1.f], .slice ao l cap, .nilIface]) ∧ Below W10.heap.size W10 w') := by
    refine (HOf.out W10 k' kb F2 HK10.out.K HK10.out.ok hx10).mono ?_
    rintro e w' ⟨s', ao, l, cap, rfl, rfl, h2, h3⟩
    rw [hs1]
    exact ⟨_, _, _, rfl, h3⟩
  have HO2 : Hid (∀ W, KK C w5 W p (.slice ca p.code.length cc) (.slice sa p.spans.length sc) (.slice wa p.wires.length wc') k' m' kb mb F2 H2 → Bx w W (.slice ca p.code.length cc) p.ticks (.slice sa p.spans.length sc) (.slice wa p.wires.length wc') → Calls Tryd.prog 18 #[.pointer (some ⟨mb, 0, none⟩), .agg #[.slice ca p.code.length cc, .int .i64 p.ticks, .slice sa p.spans.length sc, .slice wa p.wires.length wc'], .int .i64 rn] W fun e w' => ∃ (ao : Option Addr) (l cap : Nat), e = .returned (.tuple #[.agg #[.int .i64 t1.p, .int .i64 (t1.c 0), .int .i64 (t1.c 1), .int .i64 (t1.c 2), .int .i64 (t1.c 3), .int .i64 (t1.c 4), .int .i64 (t1.c 5), .bool t1.f], .slice ao l cap, .nilIface]) ∧ Below W.heap.size W w') := fun W hK hxW => by
    refine (HOf.out W m' mb H2 hK.M hK.ok' hxW).mono ?_
    rintro e w' ⟨s', ao, l, cap, rfl, rfl, h2, h3⟩
    rw [ht1]
    exact ⟨_, _, _, rfl, h3⟩
  have HSS1 : Hid (sameS s1 t1 = true) := sameS_iff.2 hst
  clear hs1 ht1 hst HSame HSS HST HOf
  go_upto_region 29 with fail
  clear g0 g1 g2 g3 f0 f1 f2 f3 hne
  have k0 := hx10.c0
  have k1 := hx10.c1
  have k2 := hx10.c2
  have k3 := hx10.c3
  have hfA : ∀ W, StB W bk s → ∀ o, W.frozen? ⟨bk, o, none⟩ = false := fun W h o => by
    have e : W.heap[bk]? = _ := h
    simp [World.frozen?, e]
  have hfB : ∀ W, StB W bm t → ∀ o, W.frozen? ⟨bm, o, none⟩ = false := fun W h o => by
    have e : W.heap[bm]? = _ := h
    simp [World.frozen?, e]
  go_upto_region 30 with (go_at_call 18; refine HO1.out.mono ?_; rintro e w11 ⟨ao11, l11, cap11, rfl, b11⟩; have hsA11 : StB w11 bk s := (b11.block _ (Array.getElem?_eq_some_iff.1 hsA10).1).trans hsA10; obtain ⟨u0, u1, u2, u3, u4, u5, u6, u7⟩ := hsA11.cs; simp only [Nat.zero_add] at u1 u2 u3 u4 u5 u6 u7; have y0 := hfA w11 hsA11 0; have y1 := hfA w11 hsA11 1; have y2 := hfA w11 hsA11 2; have y3 := hfA w11 hsA11 3; have y4 := hfA w11 hsA11 4; have y5 := hfA w11 hsA11 5; have y6 := hfA w11 hsA11 6; have y7 := hfA w11 hsA11 7)
  have tk12 : KTouch [bk] w11 (setSt w11 bk 0 s1) := setSt_touch w11 (by simp) 0 s1
  have hsA12 : StB (setSt w11 bk 0 s1) bk s1 := by
    have e : w11.heap[bk]? = _ := hsA11
    unfold StB setSt
    simp [World.setCell, Array.getElem?_modify, e]
  have hsB11 : StB w11 bm t := (b11.block _ (Array.getElem?_eq_some_iff.1 hsB10).1).trans hsB10
  have hsB12 : StB (setSt w11 bk 0 s1) bm t := (tk12.block _ (Array.getElem?_eq_some_iff.1 hsB11).1 (by simp; omega)).trans hsB11
  have hK12 := (HK10.out.all b11).set tk12 hnA hw5m.1
  have hx12 : Bx w (setSt w11 bk 0 s1) (.slice ca p.code.length cc) p.ticks (.slice sa p.spans.length sc) (.slice wa p.wires.length wc') := Below.trans (hx10.step b11) (tk12.below (fun g hg => by rw [List.mem_singleton] at hg; omega) (hx10.step b11).size)
  have e12 : ((((((((w11.setCell ⟨bk, 0, none⟩ (.int .i64 s1.p)).setCell ⟨bk, 1, none⟩ (.int .i64 (s1.c 0))).setCell ⟨bk, 2, none⟩ (.int .i64 (s1.c 1))).setCell ⟨bk, 3, none⟩ (.int .i64 (s1.c 2))).setCell ⟨bk, 4, none⟩ (.int .i64 (s1.c 3))).setCell ⟨bk, 5, none⟩ (.int .i64 (s1.c 4))).setCell ⟨bk, 6, none⟩ (.int .i64 (s1.c 5))).setCell ⟨bk, 7, none⟩ (.bool s1.f)) = setSt w11 bk 0 s1 := rfl
  rw [e12]
  clear e12 u0 u1 u2 u3 u4 u5 u6 u7 y0 y1 y2 y3 y4 y5 y6 y7 k0 k1 k2 k3 tk12 hsA11 hsB11 b11 HO1 hsA10 hsB10 hx10
  generalize setSt w11 bk 0 s1 = W12 at *
  have k0 := hx12.c0
  have k1 := hx12.c1
  have k2 := hx12.c2
  have k3 := hx12.c3
  have HO3 : Hid (Calls Tryd.prog 18 #[.pointer (some ⟨mb, 0, none⟩), .agg #[.slice ca p.code.length cc, .int .i64 p.ticks, .slice sa p.spans.length sc, .slice wa p.wires.length wc'], .int .i64 rn] W12 fun e w' => ∃ (ao : Option Addr) (l cap : Nat), e = .returned (.tuple #[.agg #[.int .i64 t1.p, .int .i64 (t1.c 0), .int .i64 (t1.c 1), .int .i64 (t1.c 2), .int .i64 (t1.c 3), .int .i64 (t1.c 4), .int .i64 (t1.c 5), .bool t1.f], .slice ao l cap, .nilIface]) ∧ Below W12.heap.size W12 w') := HO2.out W12 hK12 hx12
  have HK12 : Hid (KK C w5 W12 p (.slice ca p.code.length cc) (.slice sa p.spans.length sc) (.slice wa p.wires.length wc') k' m' kb mb F2 H2) := hK12
  clear HO2 hK12
  go_upto_region 31 with (go_at_call 18; refine HO3.out.mono ?_; rintro e w13 ⟨ao13, l13, cap13, rfl, b13⟩; have hsB13 : StB w13 bm t := (b13.block _ (Array.getElem?_eq_some_iff.1 hsB12).1).trans hsB12; obtain ⟨u0, u1, u2, u3, u4, u5, u6, u7⟩ := hsB13.cs; simp only [Nat.zero_add] at u1 u2 u3 u4 u5 u6 u7; have y0 := hfB w13 hsB13 0; have y1 := hfB w13 hsB13 1; have y2 := hfB w13 hsB13 2; have y3 := hfB w13 hsB13 3; have y4 := hfB w13 hsB13 4; have y5 := hfB w13 hsB13 5; have y6 := hfB w13 hsB13 6; have y7 := hfB w13 hsB13 7)
  have tk14 : KTouch [bm] w13 (setSt w13 bm 0 t1) := setSt_touch w13 (by simp) 0 t1
  have hsB14 : StB (setSt w13 bm 0 t1) bm t1 := by
    have e : w13.heap[bm]? = _ := hsB13
    unfold StB setSt
    simp [World.setCell, Array.getElem?_modify, e]
  have hsA13 : StB w13 bk s1 := (b13.block _ (Array.getElem?_eq_some_iff.1 hsA12).1).trans hsA12
  have hsA14 : StB (setSt w13 bm 0 t1) bk s1 := (tk14.block _ (Array.getElem?_eq_some_iff.1 hsA13).1 (by simp; omega)).trans hsA13
  have hK14 := (HK12.out.all b13).set tk14 hnB hw5m.2
  have hx14 : Bx w (setSt w13 bm 0 t1) (.slice ca p.code.length cc) p.ticks (.slice sa p.spans.length sc) (.slice wa p.wires.length wc') := Below.trans (hx12.step b13) (tk14.below (fun g hg => by rw [List.mem_singleton] at hg; omega) (hx12.step b13).size)
  have e14 : ((((((((w13.setCell ⟨bm, 0, none⟩ (.int .i64 t1.p)).setCell ⟨bm, 1, none⟩ (.int .i64 (t1.c 0))).setCell ⟨bm, 2, none⟩ (.int .i64 (t1.c 1))).setCell ⟨bm, 3, none⟩ (.int .i64 (t1.c 2))).setCell ⟨bm, 4, none⟩ (.int .i64 (t1.c 3))).setCell ⟨bm, 5, none⟩ (.int .i64 (t1.c 4))).setCell ⟨bm, 6, none⟩ (.int .i64 (t1.c 5))).setCell ⟨bm, 7, none⟩ (.bool t1.f)) = setSt w13 bm 0 t1 := rfl
  rw [e14]
  clear e14 u0 u1 u2 u3 u4 u5 u6 u7 y0 y1 y2 y3 y4 y5 y6 y7 k0 k1 k2 k3 tk14 hsA13 hsB13 b13 HO3 hsA12 hsB12 hx12 HK12
  generalize setSt w13 bm 0 t1 = W14 at *
  have HK14 : Hid (KK C w5 W14 p (.slice ca p.code.length cc) (.slice sa p.spans.length sc) (.slice wa p.wires.length wc') k' m' kb mb F2 H2) := hK14
  clear hK14
  obtain ⟨u0, u1, u2, u3, u4, u5, u6, u7⟩ := hsA14.cs
  obtain ⟨v0, v1, v2, v3, v4, v5, v6, v7⟩ := hsB14.cs
  simp only [Nat.zero_add] at u1 u2 u3 u4 u5 u6 u7 v1 v2 v3 v4 v5 v6 v7
  have hnq := neq_st2 s1 t1
  rw [HSS1.out] at hnq
  go_wp2
  go_roundw
  case rel => exact ⟨i + 1, k', m', F2, H2, by omega, by go_num, HTm.out.1, HTm.out.2, fun h0 => by omega, HK14.out, hx14⟩
  case measure => simp [intOf]; omega
end Go.Proofs.YteoemcekkcnpladDoor
