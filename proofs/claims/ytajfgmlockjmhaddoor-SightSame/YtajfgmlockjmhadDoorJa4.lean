/-
  SSame0, SSame, SgtAr, SgtRunG, WLine, DLines, GKern, GNew0, WOut, WSend, WTake, WClone, WDel: joined into one text.
-/
import Derived.Test.YtajfgmlockjmhadDoorJa3
import Derived.Test.YtajfgmlockjmhadDoorJa2
import Derived.Test.YtajfgmlockjmhadDoorJa1
import Derived.Deep.CutRange
import Derived.Deep.CutBlock
import Derived.Deep.RegionWith
import Derived.Deep.RegionHeld3
import Derived.BigQuiet
import Derived.RangeFuncNested
import Derived.Deep.RegionLaw
import Derived.OneCell
import Derived.Lib.SliceRun
namespace Go.Proofs.YtajfgmlockjmhadDoor
open Go.RowKit

/-- The second one is poked. -/
theorem kk_poke {G : World → Prop} {C : KerC G} (CP : KerPoke C) {w1 W : World} {p : PD} {vc vs vw : Value} {k m : KD} {kb mb : Nat} {F H : List Nat} (hp : plchk p = 0) (r c n : Int) (h : KK C w1 W p vc vs vw k m kb mb F H) :
    Calls Tryd.prog 20 #[.pointer (some ⟨mb, 0, none⟩), .int .i64 r, .int .i64 c, .int .i64 n] W fun e w' => e = .returned (wErr (pokeN m r c n)) ∧ ∃ H', KK C w1 w' p vc vs vw k (pokeK m r c n) kb mb F H' ∧ KTouch H W w' ∧ ∀ g ∈ F ++ H', g ∈ F ++ H ∨ W.heap.size ≤ g := by
  refine (CP r c n h.M h.ok' hp).mono ?_
  rintro e w' ⟨rfl, H', hM', tk, hH'⟩
  refine ⟨rfl, H', ⟨C.frame h.K tk (fun x hx => ⟨fun hm => h.ap x hm hx, (C.ge h.M x hx).1⟩), hM', fun g hg hm => ?_, h.ok, poke_ok h.ok' r c n⟩, tk, fun g hg => ?_⟩
  · rcases hH' g hm with h1 | h1
    · exact h.ap g hg h1
    · have := (C.ge h.K g hg).2
      omega
  · rcases List.mem_append.1 hg with h1 | h1
    · exact Or.inl (List.mem_append.2 (Or.inl h1))
    · rcases hH' g h1 with h2 | h2
      · exact Or.inl (List.mem_append.2 (Or.inr h2))
      · exact Or.inr h2
/-- The poked one: another room is seen the same. -/
theorem poke_other {p : PD} {o : Int} {c n : Int} {r : Nat} (hr : o ≠ (r : Int)) (ho : pokeB (newK p) o c n = false) : (pokeK (newK p) o c n).rooms[r]? = (newK p).rooms[r]? ∧ (pokeK (newK p) o c n).lines = (newK p).lines ∧ (pokeK (newK p) o c n).time = (newK p).time := by
  obtain ⟨h0, h1, _⟩ := pokeB_false ho
  unfold pokeK
  rw [ho, if_neg (by decide)]
  refine ⟨?_, rfl, rfl⟩
  show ((newK p).rooms.set o.toNat _)[r]? = _
  rw [List.getElem?_set_ne (by omega)]
end Go.Proofs.YtajfgmlockjmhadDoor
namespace Go.Proofs.YtajfgmlockjmhadDoor
open Go.RowKit

/-- The law's own plans: one room that rests; one that sets a cell. -/
def toyR : PD := ⟨[[(10, 0, 0)]], 1, [], []⟩
def toyS : PD := ⟨[[(1, 1, 4)]], 1, [(0, 1, 0)], []⟩
theorem toyR_ok : plchk toyR = 0 := by decide +kernel
theorem toyR_room : noRoom (newK toyR) 0 = false := by decide +kernel
theorem toyR_sees : seesK (newK toyR) 0 = [] := by decide +kernel
theorem toyS_run : runE toyS 1 0 = 0 := by decide +kernel
theorem toyS_two : ((statesK toyS 1 0)[1]?.map fun s => s.c 1) = some 4 := by decide +kernel
theorem toyR_pln (W : World) (n : Nat) (hn : n = W.heap.size) : Pln ((W.alloc (.cells #[.int .i64 10, .int .i64 0, .int .i64 0] 25)).alloc (.cells #[.slice (some ⟨n, 0, none⟩) 1 1] 26)) (.slice (some ⟨n + 1, 0, none⟩) 1 1) (.slice none 0 0) (.slice none 0 0) toyR := by
  subst hn
  refine ⟨Or.inr ⟨_, 0, 1, rfl, Nat.le_refl _, by simp, fun i c hi => ?_⟩, Or.inl ⟨rfl, _, _, rfl⟩, Or.inl ⟨rfl, _, _, rfl⟩⟩
  match i, hi with
  | 0, hi =>
    simp [toyR] at hi
    subst hi
    refine ⟨.slice (some ⟨W.heap.size, 0, none⟩) 1 1, by simp [go_sem], Or.inr ⟨W.heap.size, 0, 1, rfl, by simp; omega, fun j o ho => ?_⟩⟩
    match j, ho with
    | 0, ho => simp at ho; subst ho; simp [go_sem]
    | j + 1, ho => simp at ho
  | i + 1, hi => simp [toyR] at hi
theorem toyS_pln (W : World) (n : Nat) (hn : n = W.heap.size) : Pln (((W.alloc (.cells #[.int .i64 1, .int .i64 1, .int .i64 4] 25)).alloc (.cells #[.slice (some ⟨n, 0, none⟩) 1 1] 26)).alloc (.cells #[.int .i64 0, .int .i64 1, .int .i64 0] 42)) (.slice (some ⟨n + 1, 0, none⟩) 1 1) (.slice (some ⟨n + 2, 0, none⟩) 1 1) (.slice none 0 0) toyS := by
  subst hn
  refine ⟨Or.inr ⟨_, 0, 1, rfl, Nat.le_refl _, by simp, fun i c hi => ?_⟩, Or.inr ⟨_, 0, 1, rfl, Nat.le_refl _, by simp, fun i s hi => ?_⟩, Or.inl ⟨rfl, _, _, rfl⟩⟩
  · match i, hi with
    | 0, hi =>
      simp [toyS] at hi
      subst hi
      refine ⟨.slice (some ⟨W.heap.size, 0, none⟩) 1 1, by simp [go_sem], Or.inr ⟨W.heap.size, 0, 1, rfl, by simp; omega, fun j o ho => ?_⟩⟩
      match j, ho with
      | 0, ho => simp at ho; subst ho; simp [go_sem]
      | j + 1, ho => simp at ho
    | i + 1, hi => simp [toyS] at hi
  · match i, hi with
    | 0, hi => simp [toyS] at hi; subst hi; simp [go_sem]
    | i + 1, hi => simp [toyS] at hi
theorem sees_small {p : PD} {k : KD} (hk : KOk p k) (hp : plchk p = 0) (r : Int) : ShortH (seesK k r) ∧ (seesK k r).length ≤ 1000000 := by
  refine ⟨fun x hx => ?_, ?_⟩
  · unfold seesK at hx
    obtain ⟨l, hl, rfl⟩ := List.mem_map.1 hx
    have hl2 := (List.mem_filter.1 hl).1
    obtain ⟨i, hi⟩ := List.mem_iff_getElem?.1 hl2
    have hlt := (List.getElem?_eq_some_iff.1 hi).1
    have hx : p.wires[i]? = some (p.wires[i]'(by rw [← hk.ll]; exact hlt)) := List.getElem?_eq_getElem _
    have hlo := hk.lines i l _ hi hx
    rcases wchk_kind ((wschk_ok (plchk_zero hp).2.2.2.1).2 _ (List.mem_of_getElem? hx)) with ⟨h1, _⟩ | ⟨h1, h2, h3⟩
    · have := hlo.one h1
      show l.xs.length ≤ _
      omega
    · have := hlo.deep h1
      show l.xs.length ≤ _
      omega
  · unfold seesK
    rw [List.length_map]
    have h1 := List.length_filter_le (atR r) k.lines
    have h2 := hk.ll
    have h3 := (wschk_ok (plchk_zero hp).2.2.2.1).1
    omega
/-- The law's own first part: two small plans. -/
structure Toys {G : World → Prop} (C : KerC G) (w : World) : Prop where
  new : ∀ W n, Below w.heap.size w W → n = W.heap.size → Calls Tryd.prog 10 #[.agg #[.slice (some ⟨n + 1, 0, none⟩) 1 1, .int .i64 1, .slice none 0 0, .slice none 0 0]] ((W.alloc (.cells #[.int .i64 10, .int .i64 0, .int .i64 0] 25)).alloc (.cells #[.slice (some ⟨n, 0, none⟩) 1 1] 26)) fun e w2 => ∃ kb, e = .returned (.tuple #[.pointer (some ⟨kb, 0, none⟩), .nilIface]) ∧ Below W.heap.size W w2 ∧ ∀ m, m = w2.heap.size →
    Calls Tryd.prog 18 #[.pointer (some ⟨kb, 0, none⟩), .agg #[.slice (some ⟨m + 1, 0, none⟩) 1 1, .int .i64 1, .slice none 0 0, .slice none 0 0], .int .i64 0] ((w2.alloc (.cells #[.int .i64 10, .int .i64 0, .int .i64 0] 25)).alloc (.cells #[.slice (some ⟨m, 0, none⟩) 1 1] 26)) fun e w3 => ∃ (s : St) (ao : Option Addr) (cap : Nat), e = .returned (.tuple #[.agg #[.int .i64 s.p, .int .i64 (s.c 0), .int .i64 (s.c 1), .int .i64 (s.c 2), .int .i64 (s.c 3), .int .i64 (s.c 4), .int .i64 (s.c 5), .bool s.f], .slice ao 0 cap, .nilIface]) ∧ Below w2.heap.size w2 w3
  run : ∀ W n, Below w.heap.size w W → n = W.heap.size → Calls Tryd.prog 19 #[.agg #[.slice (some ⟨n + 1, 0, none⟩) 1 1, .int .i64 1, .slice (some ⟨n + 2, 0, none⟩) 1 1, .slice none 0 0], .int .i64 1, .int .i64 0] (((W.alloc (.cells #[.int .i64 1, .int .i64 1, .int .i64 4] 25)).alloc (.cells #[.slice (some ⟨n, 0, none⟩) 1 1] 26)).alloc (.cells #[.int .i64 0, .int .i64 1, .int .i64 0] 42)) fun e w2 => ∃ b off cap, e = .returned (.tuple #[.slice (some ⟨b, off, none⟩) 2 cap, .nilIface]) ∧ w2.cell? ⟨b, off + 10, none⟩ = some (.int .i64 4) ∧ Below W.heap.size W w2
theorem toys_of {G : World → Prop} (C : KerC G) (R : SgtRun G) (O : SgtOf C) (w : World) (hG : G w) : Toys C w := by
  refine ⟨fun W n hb hn => ?_, fun W n hb hn => ?_⟩
  · have hA : Below W.heap.size W ((W.alloc (.cells #[.int .i64 10, .int .i64 0, .int .i64 0] 25)).alloc (.cells #[.slice (some ⟨n, 0, none⟩) 1 1] 26)) := ((Below.refl _ _).alloc (Nat.le_refl _) _).alloc (by simp) _
    have hGW := C.all _ _ (C.all _ _ hG hb) hA
    refine (C.new toyR _ _ _ _ hGW (toyR_pln W n hn) toyR_ok).mono ?_
    rintro e w2 ⟨kb, F, rfl, hK⟩
    have hb2 := hA.trans ((C.since hK).mono hA.size)
    refine ⟨kb, rfl, hb2, fun m hm => ?_⟩
    have hB : Below w2.heap.size w2 ((w2.alloc (.cells #[.int .i64 10, .int .i64 0, .int .i64 0] 25)).alloc (.cells #[.slice (some ⟨m, 0, none⟩) 1 1] 26)) := ((Below.refl _ _).alloc (Nat.le_refl _) _).alloc (by simp) _
    have h := O (.slice (some ⟨m + 1, 0, none⟩) 1 1) (.slice none 0 0) (.slice none 0 0) 0 hGW (C.frame hK (KTouch.of (M := []) hB) (by simp)) (new_ok toyR_ok) toyR_ok (toyR_pln w2 m hm)
    refine h.mono ?_
    rintro e w3 ⟨v, rfl, h1, h2⟩
    rw [toyR_room, if_neg (by decide), toyR_sees] at h1
    obtain ⟨ao, cap, rfl⟩ := h1.form
    rw [toyR_room]
    exact ⟨_, ao, cap, rfl, hB.trans (h2.mono hB.size)⟩
  · have hA : Below W.heap.size W (((W.alloc (.cells #[.int .i64 1, .int .i64 1, .int .i64 4] 25)).alloc (.cells #[.slice (some ⟨n, 0, none⟩) 1 1] 26)).alloc (.cells #[.int .i64 0, .int .i64 1, .int .i64 0] 42)) := (((Below.refl _ _).alloc (Nat.le_refl _) _).alloc (by simp) _).alloc (by simp; omega) _
    have h := R toyS _ _ _ 1 0 _ (C.all _ _ (C.all _ _ hG hb) hA) (toyS_pln W n hn)
    rw [toyS_run, if_pos rfl] at h
    refine h.mono ?_
    rintro e w2 ⟨v, rfl, h1, h2⟩
    have hl : (statesK toyS (Int.toNat 1) (Int.toNat 0)).length = 2 := statesK_len _ _ _
    rcases h1 with ⟨h0, _⟩ | ⟨b, off, cap, h3, _, _, h4⟩
    · rw [h0] at hl
      cases hl
    · obtain ⟨s, hs, hs1⟩ := Option.map_eq_some_iff.1 toyS_two
      have h5 := (h4 1 s hs).c1
      rw [hs1] at h5
      exact ⟨b, off, cap, by rw [h3, hl]; rfl, h5, hA.trans (h2.mono hA.size)⟩
set_option maxRecDepth 100000 in
set_option maxHeartbeats 16000000 in
theorem ssame_of {G : World → Prop} (C : KerC G) (CP : KerPoke C) (R : SgtRun G) (O : SgtOf C) (p : PD) (vc vs vw : Value) (r n cell v : Int) (w : World) (hG : G w) (hP : Pln w vc vs vw p) :
    Calls Tryd.prog 6 #[plV vc p.ticks vs vw, .int .i64 r, .int .i64 n, .int .i64 cell, .int .i64 v] w fun e w' => e = .returned (.bool true) ∧ Below w.heap.size w w' := by
  obtain ⟨ca, cc, rfl⟩ := hP.code.form
  obtain ⟨sa, sc, rfl⟩ := hP.spans.form
  obtain ⟨wa, wc', rfl⟩ := hP.wires.form
  have hx0 := Bx.first w (.slice ca p.code.length cc) p.ticks (.slice sa p.spans.length sc) (.slice wa p.wires.length wc')
  have HP : Hid (Pln w (.slice ca p.code.length cc) (.slice sa p.spans.length sc) (.slice wa p.wires.length wc') p) := hP
  have HG : Hid (∀ W, Below w.heap.size w W → G W) := fun W hb => C.all w W hG hb
  have HT : Hid (Toys C w) := toys_of C R O w hG
  unfold plV
  clear hP hG
  go_enter Tryd.func6, Tryd.ntmps6
  go_upto_region 4 with (go_at_call 10; refine (HT.out.new (w.alloc (.cells #[.slice ca p.code.length cc, .int .i64 p.ticks, .slice sa p.spans.length sc, .slice wa p.wires.length wc'] 31)) (w.heap.size + 1) hx0.below (by simp)).mono ?_; rintro e w2 ⟨kb1, rfl, b2, q2⟩)
  have hx2 : Bx w w2 (.slice ca p.code.length cc) p.ticks (.slice sa p.spans.length sc) (.slice wa p.wires.length wc') := hx0.step b2
  clear b2
  go_upto_region 5 with (go_at_call 18; refine (q2 w2.heap.size rfl).mono ?_; clear q2; rintro e w3 ⟨s0, ao3, cap3, rfl, b3⟩)
  have hx3 : Bx w w3 (.slice ca p.code.length cc) p.ticks (.slice sa p.spans.length sc) (.slice wa p.wires.length wc') := hx2.step b3
  have hA3 : Below w3.heap.size w3 (w3.alloc (.cells #[.int .i64 s0.p, .int .i64 (s0.c 0), .int .i64 (s0.c 1), .int .i64 (s0.c 2), .int .i64 (s0.c 3), .int .i64 (s0.c 4), .int .i64 (s0.c 5), .bool s0.f] 48)) := (Below.refl _ _).alloc (Nat.le_refl _) _
  have hx4 := hx3.step hA3
  clear b3 hx2 hx3 hA3
  generalize w3.alloc (.cells #[.int .i64 s0.p, .int .i64 (s0.c 0), .int .i64 (s0.c 1), .int .i64 (s0.c 2), .int .i64 (s0.c 3), .int .i64 (s0.c 4), .int .i64 (s0.c 5), .bool s0.f] 48) = w4 at *
  go_upto_region 8 with (go_at_call 19; refine (HT.out.run w4 w4.heap.size hx4.below rfl).mono ?_; rintro e w5 ⟨b5, off5, cap5, rfl, hc5, bb5⟩)
  have hx5 := hx4.step bb5
  clear bb5 hx4 hc5
  have k0 := hx5.c0
  have k1 := hx5.c1
  have k2 := hx5.c2
  have k3 := hx5.c3
  by_cases hp : plchk p = 0
  case neg =>
    have HN : Hid (∀ W, Below w.heap.size w W → Calls Tryd.prog 10 #[.agg #[.slice ca p.code.length cc, .int .i64 p.ticks, .slice sa p.spans.length sc, .slice wa p.wires.length wc']] W fun e w' => ∃ x, e = .returned (.tuple #[.pointer x, .iface 71 (.int .i64 (plchk p))]) ∧ Below W.heap.size W w') := fun W hb => by
      have := C.no p _ _ _ W (HG.out W hb) (HP.out.all hb) hp
      rw [wErr_not hp] at this
      exact this
    generalize plchk p = z at HN hp
    go_wp2_with (first
      | (go_at_call 10; refine (HN.out w5 hx5.below).mono ?_; rintro e w6 ⟨x6, rfl, b6⟩; have hx6 := hx5.step b6; clear k0 k1 k2 k3; have k0 := hx6.c0; have k1 := hx6.c1; have k2 := hx6.c2; have k3 := hx6.c3)
      | (go_at_call 10; refine (HN.out w6 hx6.below).mono ?_; rintro e w7 ⟨x7, rfl, b7⟩; have hx7 := hx6.step b7))
    go_ret
    exact ⟨rfl, hx7.below⟩
  have HN : Hid (∀ W, Below w.heap.size w W → Calls Tryd.prog 10 #[.agg #[.slice ca p.code.length cc, .int .i64 p.ticks, .slice sa p.spans.length sc, .slice wa p.wires.length wc']] W fun e w' => ∃ kb F, e = .returned (.tuple #[.pointer (some ⟨kb, 0, none⟩), .nilIface]) ∧ C.K W w' p (.slice ca p.code.length cc) (.slice sa p.spans.length sc) (.slice wa p.wires.length wc') (newK p) kb F) := fun W hb => C.new p _ _ _ W (HG.out W hb) (HP.out.all hb) hp
  go_upto_region 10 with (first
    | (go_at_call 10; refine (HN.out w5 hx5.below).mono ?_; rintro e w6 ⟨kb, F, rfl, hK⟩; have hx6 := hx5.step (C.since hK); clear k0 k1 k2 k3; have k0 := hx6.c0; have k1 := hx6.c1; have k2 := hx6.c2; have k3 := hx6.c3)
    | (go_at_call 10; refine (HN.out w6 hx6.below).mono ?_; rintro e w7 ⟨mb, H, rfl, hM⟩; have hx7 := hx6.step (C.since hM)))
  have hkk := kk_new hp hK hM
  have HG5 : Hid (G w5) := HG.out w5 hx5.below
  have hs5 : w.heap.size + 1 ≤ w5.heap.size := hx5.size
  clear hK hM hx6 hx5 k0 k1 k2 k3 HN
  have k0 := hx7.c0
  by_cases hroom : 0 ≤ r ∧ r < (p.code.length : Int)
  case neg =>
    by_cases h1 : r < 0
    · have h1' : decide (r < 0) = true := decide_eq_true h1
      go_wp2
      go_ret
      exact ⟨rfl, hx7.below⟩
    · have h1' : decide (r < 0) = false := decide_eq_false h1
      have h2 : (p.code.length : Int) ≤ r := by omega
      go_wp2
      go_ret
      exact ⟨rfl, hx7.below⟩
  obtain ⟨rn, rfl⟩ : ∃ q : Nat, r = q := ⟨r.toNat, by omega⟩
  have hrn : rn < p.code.length := by omega
  have hn1 : decide ((rn : Int) < 0) = false := decide_eq_false (by omega)
  have hn2 : decide ((p.code.length : Int) ≤ (rn : Int)) = false := decide_eq_false (by omega)
  have hn3 : decide (p.code.length ≤ rn) = false := decide_eq_false (by omega)
  have hc5 := (plchk_zero hp).1
  have hl0 : (p.code.length : Int) ≠ 0 := by omega
  have hadd : (rn : Int) + 1 ≤ 9223372036854775807 := by omega
  go_upto_region 12 with fail
  go_cut [22] from 113 to 118 (fun s22 wx => s22 = .int .i64 (((rn + 1) % p.code.length : Nat) : Int) ∧ wx = w7)
  case first =>
    go_wp2_with fail
    go_meet
    case rel => exact ⟨by simp, rfl⟩
  case rest =>
  obtain ⟨rfl, hwx⟩ := hcut
  rw [hwx]
  clear hwx
  obtain ⟨on, hon⟩ : ∃ q, (rn + 1) % p.code.length = q := ⟨_, rfl⟩
  rw [hon]
  clear hon
  by_cases hor : on = rn
  case pos =>
    subst hor
    go_wp2
    go_ret
    exact ⟨rfl, hx7.below⟩
  have hor' : ((on : Int) == (rn : Int)) = false := beq_eq_false_iff_ne.2 (by omega)
  have hor2 : (on == rn) = false := by simpa using hor
  have HPk : Hid (Calls Tryd.prog 20 #[.pointer (some ⟨mb, 0, none⟩), .int .i64 on, .int .i64 cell, .int .i64 v] w7 fun e w' => e = .returned (wErr (pokeN (newK p) on cell v)) ∧ ∃ H', KK C w5 w' p (.slice ca p.code.length cc) (.slice sa p.spans.length sc) (.slice wa p.wires.length wc') (newK p) (pokeK (newK p) on cell v) kb mb F H' ∧ KTouch H w7 w' ∧ ∀ g ∈ F ++ H', g ∈ F ++ H ∨ w7.heap.size ≤ g) := kk_poke CP hp on cell v hkk
  have hHge : ∀ g ∈ H, w.heap.size + 1 ≤ g := fun g hg => by
    have := (C.ge hkk.M g hg).1
    omega
  cases hpb : pokeB (newK p) on cell v with
  | true =>
    have hpn : pokeN (newK p) on cell v = 1 := by unfold pokeN; rw [hpb, if_pos rfl]
    rw [hpn] at HPk
    have HPk' : Hid (Calls Tryd.prog 20 #[.pointer (some ⟨mb, 0, none⟩), .int .i64 on, .int .i64 cell, .int .i64 v] w7 fun e w' => e = .returned (.iface 71 (.int .i64 1)) ∧ KTouch H w7 w') := HPk.out.mono (by
      rintro e w' ⟨rfl, H', _, h2, _⟩
      exact ⟨rfl, h2⟩)
    clear HPk hkk hpn hpb
    go_wp2_with (go_at_call 20; refine HPk'.out.mono ?_; rintro e w8 ⟨rfl, tk8⟩)
    go_ret
    exact ⟨rfl, (Below.trans hx7 (tk8.below hHge hx7.size)).mono (Nat.le_succ _) |> fun h => ((Below.refl _ w).alloc (Nat.le_refl _) _).trans h⟩
  | false =>
  have hpn : pokeN (newK p) on cell v = 0 := by unfold pokeN; rw [hpb, if_neg (by decide)]
  rw [hpn] at HPk
  obtain ⟨e1, e2, e3⟩ := poke_other (p := p) (r := rn) (by omega) hpb
  have HPk' : Hid (Calls Tryd.prog 20 #[.pointer (some ⟨mb, 0, none⟩), .int .i64 on, .int .i64 cell, .int .i64 v] w7 fun e w' => e = .returned .nilIface ∧ ∃ m H', KK C w5 w' p (.slice ca p.code.length cc) (.slice sa p.spans.length sc) (.slice wa p.wires.length wc') (newK p) m kb mb F H' ∧ m.time = 0 ∧ StSame (roomK (newK p) rn) (roomK m rn) ∧ seesK (newK p) rn = seesK m rn ∧ Bx w w' (.slice ca p.code.length cc) p.ticks (.slice sa p.spans.length sc) (.slice wa p.wires.length wc')) := HPk.out.mono (by
    rintro e w' ⟨rfl, H', h1, h2, _⟩
    refine ⟨rfl, _, H', h1, by rw [e3]; rfl, ?_, ?_, Below.trans hx7 (h2.below hHge hx7.size)⟩
    · have e4 : roomK (pokeK (newK p) on cell v) rn = roomK (newK p) rn := by
        have hl : (pokeK (newK p) on cell v).rooms.length = (newK p).rooms.length := by rw [h1.ok'.rl, h1.ok.rl]
        unfold roomK noRoom
        rw [hl]
        simp only [Int.toNat_natCast, List.getD, e1]
      rw [e4]
      exact StSame.refl _
    · unfold seesK
      rw [e2])
  clear HPk hkk hpn hpb e1 e2 e3 hHge hn1 hn2 hn3 hadd
  go_upto_region 15 with (go_at_call 20; refine HPk'.out.mono ?_; rintro e w8 ⟨rfl, m8, H8, hkk8, htm8, hsm8, hse8, hx8⟩)
  clear HPk' hx7 k0
  go_wp2
  go_loopw [23] (fun s23 wr => ∃ (i : Nat) (k m : KD) (F H : List Nat), i ≤ 80 ∧ s23 = .int .i64 i ∧ k.time = i ∧ m.time = i ∧ (i = 0 → StSame (roomK k rn) (roomK m rn) ∧ seesK k rn = seesK m rn) ∧ KK C w5 wr p (.slice ca p.code.length cc) (.slice sa p.spans.length sc) (.slice wa p.wires.length wc') k m kb mb F H ∧ Bx w wr (.slice ca p.code.length cc) p.ticks (.slice sa p.spans.length sc) (.slice wa p.wires.length wc')) (fun s _ => 80 - (intOf s).toNat)
  case atStart => exact ⟨0, newK p, m8, F, H8, Nat.zero_le _, rfl, rfl, htm8, fun _ => ⟨hsm8, hse8⟩, hkk8, hx8⟩
  case round =>
  clear hkk8 htm8 hsm8 hse8 hx8
  obtain ⟨i, k, m, F1, H1, hi, rfl, htk, htm, hsame, hkk, hx⟩ := hrel
  by_cases hin : (i : Int) < n
  case neg =>
    have hin' : decide ((i : Int) < n) = false := decide_eq_false hin
    clear hkk hsame
    go_wp2
    go_ret
    exact ⟨rfl, hx.below⟩
  by_cases hi80 : i < 80
  case neg =>
    obtain rfl : i = 80 := by omega
    rw [show ((80 : Nat) : Int) = 80 from rfl] at hin
    clear hkk hsame
    go_wp2
    go_ret
    exact ⟨rfl, hx.below⟩
  have hi8 : (i : Int) < 80 := by omega
  rename World => wA
  have HSm : Hid (i = 0 → StSame (roomK k rn) (roomK m rn) ∧ seesK k rn = seesK m rn) := hsame
  clear hsame
  have hrl : ∀ q : KD, KOk p q → noRoom q rn = false := fun q hq => by
    unfold noRoom
    rw [Bool.or_eq_false_iff, hq.rl]
    exact ⟨decide_eq_false (by omega), decide_eq_false (by omega)⟩
  have HOf : Hid (∀ (W : World) (q : KD) (qb : Nat) (Fq : List Nat), C.K w5 W p (.slice ca p.code.length cc) (.slice sa p.spans.length sc) (.slice wa p.wires.length wc') q qb Fq → KOk p q → Bx w W (.slice ca p.code.length cc) p.ticks (.slice sa p.spans.length sc) (.slice wa p.wires.length wc') → Calls Tryd.prog 18 #[.pointer (some ⟨qb, 0, none⟩), .agg #[.slice ca p.code.length cc, .int .i64 p.ticks, .slice sa p.spans.length sc, .slice wa p.wires.length wc'], .int .i64 rn] W fun e w' => ∃ (s : St) (ao : Option Addr) (l cap : Nat), e = .returned (.tuple #[.agg #[.int .i64 s.p, .int .i64 (s.c 0), .int .i64 (s.c 1), .int .i64 (s.c 2), .int .i64 (s.c 3), .int .i64 (s.c 4), .int .i64 (s.c 5), .bool s.f], .slice ao l cap, .nilIface]) ∧ s = roomK q rn ∧ HdL w' (.slice ao l cap) (seesK q rn) ∧ Below W.heap.size W w') := fun W q qb Fq hK hq hxW => by
    have h1 := O (.slice ca p.code.length cc) (.slice sa p.spans.length sc) (.slice wa p.wires.length wc') rn HG5.out hK hq hp (HP.out.all hxW.below)
    refine h1.mono ?_
    rintro e w' ⟨v, rfl, h2, h3⟩
    rw [hrl q hq, if_neg (by decide)] at h2
    obtain ⟨ao, cap, rfl⟩ := h2.form
    rw [hrl q hq]
    exact ⟨_, _, _, _, rfl, rfl, h2, h3⟩
  have k0 := hx.c0
  have k1 := hx.c1
  have k2 := hx.c2
  have k3 := hx.c3
  obtain ⟨s, hs⟩ : ∃ s, s = roomK k rn := ⟨_, rfl⟩
  obtain ⟨t, ht⟩ : ∃ t, t = roomK m rn := ⟨_, rfl⟩
  have hHOk : ∀ W, Below wA.heap.size wA W → Calls Tryd.prog 18 #[.pointer (some ⟨kb, 0, none⟩), .agg #[.slice ca p.code.length cc, .int .i64 p.ticks, .slice sa p.spans.length sc, .slice wa p.wires.length wc'], .int .i64 rn] W fun e w' => ∃ (ao : Option Addr) (l cap : Nat), e = .returned (.tuple #[.agg #[.int .i64 s.p, .int .i64 (s.c 0), .int .i64 (s.c 1), .int .i64 (s.c 2), .int .i64 (s.c 3), .int .i64 (s.c 4), .int .i64 (s.c 5), .bool s.f], .slice ao l cap, .nilIface]) ∧ HdL w' (.slice ao l cap) (seesK k rn) ∧ Below W.heap.size W w' := fun W hb => by
    refine (HOf.out W k kb F1 (hkk.all hb).K hkk.ok (hx.step hb)).mono ?_
    rintro e w' ⟨s', ao, l, cap, rfl, rfl, h2, h3⟩
    rw [hs]
    exact ⟨_, _, _, rfl, h2, h3⟩
  have hHOm : ∀ W, Below wA.heap.size wA W → Calls Tryd.prog 18 #[.pointer (some ⟨mb, 0, none⟩), .agg #[.slice ca p.code.length cc, .int .i64 p.ticks, .slice sa p.spans.length sc, .slice wa p.wires.length wc'], .int .i64 rn] W fun e w' => ∃ (ao : Option Addr) (l cap : Nat), e = .returned (.tuple #[.agg #[.int .i64 t.p, .int .i64 (t.c 0), .int .i64 (t.c 1), .int .i64 (t.c 2), .int .i64 (t.c 3), .int .i64 (t.c 4), .int .i64 (t.c 5), .bool t.f], .slice ao l cap, .nilIface]) ∧ HdL w' (.slice ao l cap) (seesK m rn) ∧ Below W.heap.size W w' := fun W hb => by
    refine (HOf.out W m mb H1 (hkk.all hb).M hkk.ok' (hx.step hb)).mono ?_
    rintro e w' ⟨s', ao, l, cap, rfl, rfl, h2, h3⟩
    rw [ht]
    exact ⟨_, _, _, rfl, h2, h3⟩
  have HOk : Hid (∀ W, Below wA.heap.size wA W → Calls Tryd.prog 18 #[.pointer (some ⟨kb, 0, none⟩), .agg #[.slice ca p.code.length cc, .int .i64 p.ticks, .slice sa p.spans.length sc, .slice wa p.wires.length wc'], .int .i64 rn] W fun e w' => ∃ (ao : Option Addr) (l cap : Nat), e = .returned (.tuple #[.agg #[.int .i64 s.p, .int .i64 (s.c 0), .int .i64 (s.c 1), .int .i64 (s.c 2), .int .i64 (s.c 3), .int .i64 (s.c 4), .int .i64 (s.c 5), .bool s.f], .slice ao l cap, .nilIface]) ∧ HdL w' (.slice ao l cap) (seesK k rn) ∧ Below W.heap.size W w') := hHOk
  have HOm : Hid (∀ W, Below wA.heap.size wA W → Calls Tryd.prog 18 #[.pointer (some ⟨mb, 0, none⟩), .agg #[.slice ca p.code.length cc, .int .i64 p.ticks, .slice sa p.spans.length sc, .slice wa p.wires.length wc'], .int .i64 rn] W fun e w' => ∃ (ao : Option Addr) (l cap : Nat), e = .returned (.tuple #[.agg #[.int .i64 t.p, .int .i64 (t.c 0), .int .i64 (t.c 1), .int .i64 (t.c 2), .int .i64 (t.c 3), .int .i64 (t.c 4), .int .i64 (t.c 5), .bool t.f], .slice ao l cap, .nilIface]) ∧ HdL w' (.slice ao l cap) (seesK m rn) ∧ Below W.heap.size W w') := hHOm
  have HST : Hid (s = roomK k rn ∧ t = roomK m rn) := ⟨hs, ht⟩
  have HKK : Hid (KK C w5 wA p (.slice ca p.code.length cc) (.slice sa p.spans.length sc) (.slice wa p.wires.length wc') k m kb mb F1 H1) := hkk
  clear hHOk hHOm hs ht hkk
  go_upto_region 19 with (go_at_call 18; refine (HOk.out wA (Below.refl _ _)).mono ?_; rintro e w2 ⟨ao2, l2, cap2, rfl, hh2, b2⟩)
  have bA : Below wA.heap.size wA (w2.alloc (.cells #[.int .i64 s.p, .int .i64 (s.c 0), .int .i64 (s.c 1), .int .i64 (s.c 2), .int .i64 (s.c 3), .int .i64 (s.c 4), .int .i64 (s.c 5), .bool s.f] 48)) := b2.alloc b2.size _
  have hsA : StB (w2.alloc (.cells #[.int .i64 s.p, .int .i64 (s.c 0), .int .i64 (s.c 1), .int .i64 (s.c 2), .int .i64 (s.c 3), .int .i64 (s.c 4), .int .i64 (s.c 5), .bool s.f] 48)) w2.heap.size s := World.alloc_heap_new _ _
  have hh2' := hh2.all ((Below.refl _ w2).alloc (Nat.le_refl _) (.cells #[.int .i64 s.p, .int .i64 (s.c 0), .int .i64 (s.c 1), .int .i64 (s.c 2), .int .i64 (s.c 3), .int .i64 (s.c 4), .int .i64 (s.c 5), .bool s.f] 48))
  have hA2 : wA.heap.size ≤ w2.heap.size := b2.size
  clear b2 hh2 k0 k1 k2 k3
  generalize w2.alloc (.cells #[.int .i64 s.p, .int .i64 (s.c 0), .int .i64 (s.c 1), .int .i64 (s.c 2), .int .i64 (s.c 3), .int .i64 (s.c 4), .int .i64 (s.c 5), .bool s.f] 48) = W3 at *
  generalize w2.heap.size = bk at *
  have k0 := (hx.step bA).c0
  have k1 := (hx.step bA).c1
  have k2 := (hx.step bA).c2
  have k3 := (hx.step bA).c3
  go_upto_region 20 with (go_at_call 18; refine (HOm.out W3 bA).mono ?_; rintro e w4 ⟨ao4, l4, cap4, rfl, hh4, b4⟩)
  have bB0 : Below W3.heap.size W3 (w4.alloc (.cells #[.int .i64 t.p, .int .i64 (t.c 0), .int .i64 (t.c 1), .int .i64 (t.c 2), .int .i64 (t.c 3), .int .i64 (t.c 4), .int .i64 (t.c 5), .bool t.f] 48)) := b4.alloc b4.size _
  have hsB : StB (w4.alloc (.cells #[.int .i64 t.p, .int .i64 (t.c 0), .int .i64 (t.c 1), .int .i64 (t.c 2), .int .i64 (t.c 3), .int .i64 (t.c 4), .int .i64 (t.c 5), .bool t.f] 48)) w4.heap.size t := World.alloc_heap_new _ _
  have hh4' := hh4.all ((Below.refl _ w4).alloc (Nat.le_refl _) (.cells #[.int .i64 t.p, .int .i64 (t.c 0), .int .i64 (t.c 1), .int .i64 (t.c 2), .int .i64 (t.c 3), .int .i64 (t.c 4), .int .i64 (t.c 5), .bool t.f] 48))
  have hA4 : W3.heap.size ≤ w4.heap.size := b4.size
  clear b4 hh4 k0 k1 k2 k3
  generalize w4.alloc (.cells #[.int .i64 t.p, .int .i64 (t.c 0), .int .i64 (t.c 1), .int .i64 (t.c 2), .int .i64 (t.c 3), .int .i64 (t.c 4), .int .i64 (t.c 5), .bool t.f] 48) = W5 at *
  generalize w4.heap.size = bm at *
  have hsA5 : StB W5 bk s := (bB0.block _ (Array.getElem?_eq_some_iff.1 hsA).1).trans hsA
  have hh2'' := hh2'.all bB0
  have bB : Below wA.heap.size wA W5 := bA.trans (bB0.mono bA.size)
  have hbkm : bk < bm := Nat.lt_of_lt_of_le (Array.getElem?_eq_some_iff.1 hsA).1 hA4
  clear hsA hh2' bB0 bA
  obtain ⟨u0, u1, u2, u3, u4, u5, u6, u7⟩ := hsA5.cs
  obtain ⟨v0, v1, v2, v3, v4, v5, v6, v7⟩ := hsB.cs
  simp only [Nat.zero_add] at u1 u2 u3 u4 u5 u6 u7 v1 v2 v3 v4 v5 v6 v7
  have hsh := sees_small HKK.out.ok hp rn
  have HHd : Hid (Calls Tryd.prog 21 #[.slice ao2 l2 cap2, .slice ao4 l4 cap4] W5 fun e w' => e = .returned (.bool (decide (seesK k rn = seesK m rn))) ∧ Below W5.heap.size W5 w') := helds2_any _ _ _ _ W5 hh2'' hh4' hsh.2 hsh.1
  clear hsh hh2'' hh4'
  have hgd := guardSt
  have hnq := neq_st2 s t
  go_upto_region 22 with fail
  go_cut [169] from 161 to 168 (fun s169 wx => s169 = .bool (!(sameS s t && decide (seesK k rn = seesK m rn))) ∧ Below W5.heap.size W5 wx)
  case first =>
    cases hss : sameS s t with
    | false =>
      rw [hss] at hnq
      go_wp2_with fail
      go_meet
      case rel => exact ⟨by rw [hss]; rfl, Below.refl _ _⟩
    | true =>
      rw [hss] at hnq
      obtain ⟨qd, hqd⟩ : ∃ q, decide (seesK k rn = seesK m rn) = q := ⟨_, rfl⟩
      rw [hqd] at HHd
      have HQD : Hid (sameS s t = true ∧ decide (seesK k rn = seesK m rn) = qd) := ⟨hss, hqd⟩
      clear hss hqd
      go_wp2_with (go_at_call 21; refine HHd.out.mono ?_; rintro e w6 ⟨rfl, b6⟩)
      go_meet
      case rel => exact ⟨by rw [HQD.out.1, HQD.out.2, Bool.true_and], b6⟩
  case rest =>
  obtain ⟨rfl, b6⟩ := hcut
  clear u0 u1 u2 u3 u4 u5 u6 u7 v0 v1 v2 v3 v4 v5 v6 v7 HHd hnq
  generalize wc = W6 at *
  have hbig : (sameS s t && decide (seesK k rn = seesK m rn)) = true ∨ (sameS s t && decide (seesK k rn = seesK m rn)) = false := by
    cases (sameS s t && decide (seesK k rn = seesK m rn)) <;> simp
  rcases hbig with hbig | hbig
  case inr =>
    have hi0 : (0 : Int) < (i : Int) := by
      rcases Nat.eq_zero_or_pos i with h0 | h0
      · exfalso
        obtain ⟨h1, h2⟩ := HSm.out h0
        rw [← HST.out.1, ← HST.out.2] at h1
        rw [sameS_iff.2 h1, decide_eq_true h2] at hbig
        cases hbig
      · omega
    have hi0n : decide (0 < i) = true := decide_eq_true (by omega)
    rw [hbig]
    go_wp2
    go_ret
    exact ⟨rfl, (hx.step (bB.trans (b6.mono bB.size))).below⟩
  rw [hbig]
  rw [Bool.and_eq_true] at hbig
  have HSS : Hid (StSame s t ∧ seesK k rn = seesK m rn) := ⟨sameS_iff.1 hbig.1, of_decide_eq_true hbig.2⟩
  clear hbig
  have b6w : Below wA.heap.size wA W6 := bB.trans (b6.mono bB.size)
  have hx6 := hx.step b6w
  have hkk6 := HKK.out.all b6w
  have hsA6 : StB W6 bk s := (b6.block _ (Array.getElem?_eq_some_iff.1 hsA5).1).trans hsA5
  have hsB6 : StB W6 bm t := (b6.block _ (Array.getElem?_eq_some_iff.1 hsB).1).trans hsB
  have hbkF : bk ∉ F1 ++ H1 := fun hm => by have := (HKK.out.lt bk hm).2; omega
  have hbmF : bm ∉ F1 ++ H1 := fun hm => by have := (HKK.out.lt bm hm).2; omega
  have hw5b : w5.heap.size ≤ wA.heap.size := (C.since HKK.out.K).size
  clear b6 bB hsA5 hsB hx b6w HOk HOm
  have hT := kk_tick HG5.out hp (by rw [htk]; omega) (by rw [htm]; omega) hkk6
  obtain ⟨e1, e2⟩ := tick_told p k
  obtain ⟨e3, e4⟩ := tick_told p m
  have hwho : whoK p m = whoK p k := by unfold whoK; rw [htk, htm]
  rw [hwho] at e4
  rw [htk] at e1
  rw [htm] at e3
  obtain ⟨wh, hwh⟩ : ∃ x, whoK p k = x := ⟨_, rfl⟩
  rw [hwh] at e2 e4
  obtain ⟨ak, hak⟩ : ∃ x, (tickK p p.spans k).2.2.2.1 = x := ⟨_, rfl⟩
  obtain ⟨qk, hqk⟩ : ∃ x, (tickK p p.spans k).2.2.2.2 = x := ⟨_, rfl⟩
  obtain ⟨am, ham⟩ : ∃ x, (tickK p p.spans m).2.2.2.1 = x := ⟨_, rfl⟩
  obtain ⟨qm, hqm⟩ : ∃ x, (tickK p p.spans m).2.2.2.2 = x := ⟨_, rfl⟩
  unfold evA at hT
  simp only [e1, e2, e3, e4, hak, hqk, ham, hqm] at hT
  have hlenk : rn < k.rooms.length := by rw [HKK.out.ok.rl]; exact hrn
  have hlenm : rn < m.rooms.length := by rw [HKK.out.ok'.rl]; exact hrn
  have hrk : ∀ q : KD, KOk p q → q.rooms[rn]? = some (roomK q rn) := fun q hq => by
    have hlt : rn < q.rooms.length := by rw [hq.rl]; exact hrn
    unfold roomK
    rw [hrl q hq, if_neg (by decide), Int.toNat_natCast]
    simp [List.getD, hlt]
  have HSame : Hid (wh = (rn : Int) → ak = am ∧ qk = qm ∧ StSame (roomK (tickK p p.spans k).1 rn) (roomK (tickK p p.spans m).1 rn)) := fun hw => by
    have h1 := tick_same hp HKK.out.ok HKK.out.ok' (by rw [htk, htm]) hrn (hrk k HKK.out.ok) (hrk m HKK.out.ok') (by rw [← HST.out.1, ← HST.out.2]; exact HSS.out.1) HSS.out.2
    obtain ⟨h2, s', t', h3, h4, h5⟩ := h1.2 (by rw [e2]; exact hw)
    have h6 := hrk _ (tick_ok hp HKK.out.ok)
    have h7 := hrk _ (tick_ok hp HKK.out.ok')
    rw [h3] at h6
    rw [h4] at h7
    obtain rfl := Option.some.inj h6
    obtain rfl := Option.some.inj h7
    refine ⟨by rw [← hak, ← ham, h2], by rw [← hqk, ← hqm, h2], h5⟩
  have HTm : Hid ((tickK p p.spans k).1.time = ((i + 1 : Nat) : Int) ∧ (tickK p p.spans m).1.time = ((i + 1 : Nat) : Int)) := by
    refine ⟨?_, ?_⟩
    · rw [tick_time, htk]
      omega
    · rw [tick_time, htm]
      omega
  clear hak hqk ham hqm e1 e2 e3 e4 hwho hwh hlenk hlenm hkk6 HSm
  generalize (tickK p p.spans k).1 = k' at *
  generalize (tickK p p.spans m).1 = m' at *
  have HT6 : Hid (Calls Tryd.prog 11 #[.pointer (some ⟨kb, 0, none⟩)] W6 fun e w2 => e = .returned (.agg #[.int .i64 i, .int .i64 wh, .int .i64 ak, .int .i64 qk]) ∧ KTouch (F1 ++ H1) W6 w2 ∧ ∀ w3, Below w2.heap.size w2 w3 → Calls Tryd.prog 11 #[.pointer (some ⟨mb, 0, none⟩)] w3 fun e w' => e = .returned (.agg #[.int .i64 i, .int .i64 wh, .int .i64 am, .int .i64 qm]) ∧ ∃ F' H', KWent C w5 W6 w' p (.slice ca p.code.length cc) (.slice sa p.spans.length sc) (.slice wa p.wires.length wc') k' m' kb mb F1 H1 F' H' ∧ KTouch (F1 ++ H1) w3 w') := hT
  clear hT
  go_upto_region 25 with (go_at_call 11; refine HT6.out.mono ?_; rintro e w7 ⟨rfl, tk7, q8⟩)
  have hE7 : Below w7.heap.size w7 (w7.alloc (.cells #[.int .i64 i, .int .i64 wh, .int .i64 ak, .int .i64 qk] 44)) := (Below.refl _ _).alloc (Nat.le_refl _) _
  have hev1 : EvB (w7.alloc (.cells #[.int .i64 i, .int .i64 wh, .int .i64 ak, .int .i64 qk] 44)) w7.heap.size i wh ak qk := World.alloc_heap_new _ _
  have q8' := q8 _ hE7
  have hs7 : W6.heap.size ≤ w7.heap.size := tk7.size
  clear q8 tk7 hE7
  generalize hW8 : w7.alloc (.cells #[.int .i64 i, .int .i64 wh, .int .i64 ak, .int .i64 qk] 44) = W8 at *
  generalize w7.heap.size = be1 at *
  have HQ8 : Hid (Calls Tryd.prog 11 #[.pointer (some ⟨mb, 0, none⟩)] W8 fun e w' => e = .returned (.agg #[.int .i64 i, .int .i64 wh, .int .i64 am, .int .i64 qm]) ∧ ∃ F' H', KWent C w5 W6 w' p (.slice ca p.code.length cc) (.slice sa p.spans.length sc) (.slice wa p.wires.length wc') k' m' kb mb F1 H1 F' H' ∧ KTouch (F1 ++ H1) W8 w') := q8'
  clear q8' hW8
  go_upto_region 26 with (go_at_call 11; refine HQ8.out.mono ?_; rintro e w9 ⟨rfl, F2, H2, hw9, tk9⟩)
  have hF1lt : ∀ g ∈ F1 ++ H1, g < wA.heap.size := fun g hg => (HKK.out.lt g hg).2
  have hbe1 : be1 < W8.heap.size := hev1.lt
  have hlA := (Array.getElem?_eq_some_iff.1 hsA6).1
  have hlB := (Array.getElem?_eq_some_iff.1 hsB6).1
  have hev1' : EvB w9 be1 i wh ak qk := (tk9.block _ hbe1 (fun hm => by have := hF1lt be1 hm; omega)).trans hev1
  obtain ⟨hkA, hnA⟩ := hw9.keep hlA hbkF
  obtain ⟨hkB, hnB⟩ := hw9.keep hlB hbmF
  have hsA9 : StB w9 bk s := hkA.trans hsA6
  have hsB9 : StB w9 bm t := hkB.trans hsB6
  have hx9 : Bx w w9 (.slice ca p.code.length cc) p.ticks (.slice sa p.spans.length sc) (.slice wa p.wires.length wc') := Below.trans hx6 (hw9.touch.below (fun g hg => by have := (HKK.out.lt g hg).1; omega) hx6.size)
  have hkk9 := hw9.kk
  have hE9 : Below w9.heap.size w9 (w9.alloc (.cells #[.int .i64 i, .int .i64 wh, .int .i64 am, .int .i64 qm] 44)) := (Below.refl _ _).alloc (Nat.le_refl _) _
  have hev2 : EvB (w9.alloc (.cells #[.int .i64 i, .int .i64 wh, .int .i64 am, .int .i64 qm] 44)) w9.heap.size i wh am qm := World.alloc_heap_new _ _
  have hev1b : EvB (w9.alloc (.cells #[.int .i64 i, .int .i64 wh, .int .i64 am, .int .i64 qm] 44)) be1 i wh ak qk := (hE9.block _ hev1'.lt).trans hev1'
  have hsA10 : StB (w9.alloc (.cells #[.int .i64 i, .int .i64 wh, .int .i64 am, .int .i64 qm] 44)) bk s := (hE9.block _ (Array.getElem?_eq_some_iff.1 hsA9).1).trans hsA9
  have hsB10 : StB (w9.alloc (.cells #[.int .i64 i, .int .i64 wh, .int .i64 am, .int .i64 qm] 44)) bm t := (hE9.block _ (Array.getElem?_eq_some_iff.1 hsB9).1).trans hsB9
  have hx10 := hx9.step hE9
  have hkk10 := hkk9.all hE9
  clear hw9 tk9 hkA hkB hsA9 hsB9 hx9 hkk9 hev1' hev1 hE9 hsA6 hsB6 hlA hlB hx6 HQ8 HT6 hs7
  generalize w9.alloc (.cells #[.int .i64 i, .int .i64 wh, .int .i64 am, .int .i64 qm] 44) = W10 at *
  generalize w9.heap.size = be2 at *
  have HK10 : Hid (KK C w5 W10 p (.slice ca p.code.length cc) (.slice sa p.spans.length sc) (.slice wa p.wires.length wc') k' m' kb mb F2 H2) := hkk10
  clear hkk10
  obtain ⟨g0, g1, g2, g3⟩ := hev1b.cs
  obtain ⟨f0, f1, f2, f3⟩ := hev2.cs
  by_cases hw : wh = (rn : Int)
  case neg =>
    have hwb : (wh == (rn : Int)) = false := by simpa using hw
    have hwn : (wh != (rn : Int)) = true := by simpa using hw
    go_wp2
    go_roundw
    case rel => exact ⟨i + 1, k', m', F2, H2, by omega, by go_num, HTm.out.1, HTm.out.2, fun h0 => by omega, HK10.out, hx10⟩
    case measure => simp [intOf]; omega
  obtain ⟨rfl, rfl, hst⟩ := HSame.out hw
  subst hw
  have hge := guardEv
  have hne := neq_ev i rn ak qk
  obtain ⟨s1, hs1⟩ : ∃ x, x = roomK k' rn := ⟨_, rfl⟩
  obtain ⟨t1, ht1⟩ : ∃ x, x = roomK m' rn := ⟨_, rfl⟩
  rw [← hs1, ← ht1] at hst
  have hw5m : w5.heap.size ≤ bk ∧ w5.heap.size ≤ bm := by omega
  have HO1 : Hid (Calls Tryd.prog 18 #[.pointer (some ⟨kb, 0, none⟩), .agg #[.slice ca p.code.length cc, .int .i64 p.ticks, .slice sa p.spans.length sc, .slice wa p.wires.length wc'], .int .i64 rn] W10 fun e w' => ∃ (ao : Option Addr) (l cap : Nat), e = .returned (.tuple #[.agg #[.int .i64 s1.p, .int .i64 (s1.c 0), .int .i64 (s1.c 1), .int .i64 (s1.c 2), .int .i64 (s1.c 3), .int .i64 (s1.c 4), .int .i64 (s1.c 5), .bool s1.f], .slice ao l cap, .nilIface]) ∧ Below W10.heap.size W10 w') := by
    refine (HOf.out W10 k' kb F2 HK10.out.K HK10.out.ok hx10).mono ?_
    rintro e w' ⟨s', ao, l, cap, rfl, rfl, h2, h3⟩
    rw [hs1]
    exact ⟨_, _, _, rfl, h3⟩
  have HO2 : Hid (∀ W, KK C w5 W p (.slice ca p.code.length cc) (.slice sa p.spans.length sc) (.slice wa p.wires.length wc') k' m' kb mb F2 H2 → Bx w W (.slice ca p.code.length cc) p.ticks (.slice sa p.spans.length sc) (.slice wa p.wires.length wc') → Calls Tryd.prog 18 #[.pointer (some ⟨mb, 0, none⟩), .agg #[.slice ca p.code.length cc, .int .i64 p.ticks, .slice sa p.spans.length sc, .slice wa p.wires.length wc'], .int .i64 rn] W fun e w' => ∃ (ao : Option Addr) (l cap : Nat), e = .returned (.tuple #[.agg #[.int .i64 t1.p, .int .i64 (t1.c 0), .int .i64 (t1.c 1), .int .i64 (t1.c 2), .int .i64 (t1.c 3), .int .i64 (t1.c 4), .int .i64 (t1.c 5), .bool t1.f], .slice ao l cap, .nilIface]) ∧ Below W.heap.size W w') := fun W hK hxW => by
    refine (HOf.out W m' mb H2 hK.M hK.ok' hxW).mono ?_
    rintro e w' ⟨s', ao, l, cap, rfl, rfl, h2, h3⟩
    rw [ht1]
    exact ⟨_, _, _, rfl, h3⟩
  have HSS1 : Hid (sameS s1 t1 = true) := sameS_iff.2 hst
  clear hs1 ht1 hst HSame HSS HST HOf
  go_upto_region 29 with fail
  clear g0 g1 g2 g3 f0 f1 f2 f3 hne
  have k0 := hx10.c0
  have k1 := hx10.c1
  have k2 := hx10.c2
  have k3 := hx10.c3
  have hfA : ∀ W, StB W bk s → ∀ o, W.frozen? ⟨bk, o, none⟩ = false := fun W h o => by
    have e : W.heap[bk]? = _ := h
    simp [World.frozen?, e]
  have hfB : ∀ W, StB W bm t → ∀ o, W.frozen? ⟨bm, o, none⟩ = false := fun W h o => by
    have e : W.heap[bm]? = _ := h
    simp [World.frozen?, e]
  go_upto_region 30 with (go_at_call 18; refine HO1.out.mono ?_; rintro e w11 ⟨ao11, l11, cap11, rfl, b11⟩; have hsA11 : StB w11 bk s := (b11.block _ (Array.getElem?_eq_some_iff.1 hsA10).1).trans hsA10; obtain ⟨u0, u1, u2, u3, u4, u5, u6, u7⟩ := hsA11.cs; simp only [Nat.zero_add] at u1 u2 u3 u4 u5 u6 u7; have y0 := hfA w11 hsA11 0; have y1 := hfA w11 hsA11 1; have y2 := hfA w11 hsA11 2; have y3 := hfA w11 hsA11 3; have y4 := hfA w11 hsA11 4; have y5 := hfA w11 hsA11 5; have y6 := hfA w11 hsA11 6; have y7 := hfA w11 hsA11 7)
  have tk12 : KTouch [bk] w11 (setSt w11 bk 0 s1) := setSt_touch w11 (by simp) 0 s1
  have hsA12 : StB (setSt w11 bk 0 s1) bk s1 := by
    have e : w11.heap[bk]? = _ := hsA11
    unfold StB setSt
    simp [World.setCell, Array.getElem?_modify, e]
  have hsB11 : StB w11 bm t := (b11.block _ (Array.getElem?_eq_some_iff.1 hsB10).1).trans hsB10
  have hsB12 : StB (setSt w11 bk 0 s1) bm t := (tk12.block _ (Array.getElem?_eq_some_iff.1 hsB11).1 (by simp; omega)).trans hsB11
  have hK12 := (HK10.out.all b11).set tk12 hnA hw5m.1
  have hx12 : Bx w (setSt w11 bk 0 s1) (.slice ca p.code.length cc) p.ticks (.slice sa p.spans.length sc) (.slice wa p.wires.length wc') := Below.trans (hx10.step b11) (tk12.below (fun g hg => by rw [List.mem_singleton] at hg; omega) (hx10.step b11).size)
  have e12 : ((((((((w11.setCell ⟨bk, 0, none⟩ (.int .i64 s1.p)).setCell ⟨bk, 1, none⟩ (.int .i64 (s1.c 0))).setCell ⟨bk, 2, none⟩ (.int .i64 (s1.c 1))).setCell ⟨bk, 3, none⟩ (.int .i64 (s1.c 2))).setCell ⟨bk, 4, none⟩ (.int .i64 (s1.c 3))).setCell ⟨bk, 5, none⟩ (.int .i64 (s1.c 4))).setCell ⟨bk, 6, none⟩ (.int .i64 (s1.c 5))).setCell ⟨bk, 7, none⟩ (.bool s1.f)) = setSt w11 bk 0 s1 := rfl
  rw [e12]
  clear e12 u0 u1 u2 u3 u4 u5 u6 u7 y0 y1 y2 y3 y4 y5 y6 y7 k0 k1 k2 k3 tk12 hsA11 hsB11 b11 HO1 hsA10 hsB10 hx10
  generalize setSt w11 bk 0 s1 = W12 at *
  have k0 := hx12.c0
  have k1 := hx12.c1
  have k2 := hx12.c2
  have k3 := hx12.c3
  have HO3 : Hid (Calls Tryd.prog 18 #[.pointer (some ⟨mb, 0, none⟩), .agg #[.slice ca p.code.length cc, .int .i64 p.ticks, .slice sa p.spans.length sc, .slice wa p.wires.length wc'], .int .i64 rn] W12 fun e w' => ∃ (ao : Option Addr) (l cap : Nat), e = .returned (.tuple #[.agg #[.int .i64 t1.p, .int .i64 (t1.c 0), .int .i64 (t1.c 1), .int .i64 (t1.c 2), .int .i64 (t1.c 3), .int .i64 (t1.c 4), .int .i64 (t1.c 5), .bool t1.f], .slice ao l cap, .nilIface]) ∧ Below W12.heap.size W12 w') := HO2.out W12 hK12 hx12
  have HK12 : Hid (KK C w5 W12 p (.slice ca p.code.length cc) (.slice sa p.spans.length sc) (.slice wa p.wires.length wc') k' m' kb mb F2 H2) := hK12
  clear HO2 hK12
  go_upto_region 31 with (go_at_call 18; refine HO3.out.mono ?_; rintro e w13 ⟨ao13, l13, cap13, rfl, b13⟩; have hsB13 : StB w13 bm t := (b13.block _ (Array.getElem?_eq_some_iff.1 hsB12).1).trans hsB12; obtain ⟨u0, u1, u2, u3, u4, u5, u6, u7⟩ := hsB13.cs; simp only [Nat.zero_add] at u1 u2 u3 u4 u5 u6 u7; have y0 := hfB w13 hsB13 0; have y1 := hfB w13 hsB13 1; have y2 := hfB w13 hsB13 2; have y3 := hfB w13 hsB13 3; have y4 := hfB w13 hsB13 4; have y5 := hfB w13 hsB13 5; have y6 := hfB w13 hsB13 6; have y7 := hfB w13 hsB13 7)
  have tk14 : KTouch [bm] w13 (setSt w13 bm 0 t1) := setSt_touch w13 (by simp) 0 t1
  have hsB14 : StB (setSt w13 bm 0 t1) bm t1 := by
    have e : w13.heap[bm]? = _ := hsB13
    unfold StB setSt
    simp [World.setCell, Array.getElem?_modify, e]
  have hsA13 : StB w13 bk s1 := (b13.block _ (Array.getElem?_eq_some_iff.1 hsA12).1).trans hsA12
  have hsA14 : StB (setSt w13 bm 0 t1) bk s1 := (tk14.block _ (Array.getElem?_eq_some_iff.1 hsA13).1 (by simp; omega)).trans hsA13
  have hK14 := (HK12.out.all b13).set tk14 hnB hw5m.2
  have hx14 : Bx w (setSt w13 bm 0 t1) (.slice ca p.code.length cc) p.ticks (.slice sa p.spans.length sc) (.slice wa p.wires.length wc') := Below.trans (hx12.step b13) (tk14.below (fun g hg => by rw [List.mem_singleton] at hg; omega) (hx12.step b13).size)
  have e14 : ((((((((w13.setCell ⟨bm, 0, none⟩ (.int .i64 t1.p)).setCell ⟨bm, 1, none⟩ (.int .i64 (t1.c 0))).setCell ⟨bm, 2, none⟩ (.int .i64 (t1.c 1))).setCell ⟨bm, 3, none⟩ (.int .i64 (t1.c 2))).setCell ⟨bm, 4, none⟩ (.int .i64 (t1.c 3))).setCell ⟨bm, 5, none⟩ (.int .i64 (t1.c 4))).setCell ⟨bm, 6, none⟩ (.int .i64 (t1.c 5))).setCell ⟨bm, 7, none⟩ (.bool t1.f)) = setSt w13 bm 0 t1 := rfl
  rw [e14]
  clear e14 u0 u1 u2 u3 u4 u5 u6 u7 y0 y1 y2 y3 y4 y5 y6 y7 k0 k1 k2 k3 tk14 hsA13 hsB13 b13 HO3 hsA12 hsB12 hx12 HK12
  generalize setSt w13 bm 0 t1 = W14 at *
  have HK14 : Hid (KK C w5 W14 p (.slice ca p.code.length cc) (.slice sa p.spans.length sc) (.slice wa p.wires.length wc') k' m' kb mb F2 H2) := hK14
  clear hK14
  obtain ⟨u0, u1, u2, u3, u4, u5, u6, u7⟩ := hsA14.cs
  obtain ⟨v0, v1, v2, v3, v4, v5, v6, v7⟩ := hsB14.cs
  simp only [Nat.zero_add] at u1 u2 u3 u4 u5 u6 u7 v1 v2 v3 v4 v5 v6 v7
  have hnq := neq_st2 s1 t1
  rw [HSS1.out] at hnq
  go_wp2
  go_roundw
  case rel => exact ⟨i + 1, k', m', F2, H2, by omega, by go_num, HTm.out.1, HTm.out.2, fun h0 => by omega, HK14.out, hx14⟩
  case measure => simp [intOf]; omega
end Go.Proofs.YtajfgmlockjmhadDoor
namespace Go.Proofs.YtajfgmlockjmhadDoor
open Go.RowKit

theorem sees_takeG (ls : List LnD) (r : Int) (n : Nat) (l : LnD) (h : ls[n]? = some l) : (((ls.take (n + 1)).filter (atR r)).map fun l => (l.xs, l.ls)) = (((ls.take n).filter (atR r)).map fun l => (l.xs, l.ls)) ++ (if atR r l = true then [(l.xs, l.ls)] else []) := by
  rw [List.take_add_one, h, Option.toList_some, List.filter_append, List.map_append]
  cases hb : atR r l <;> simp [hb]
/-- What is seen of the first wires. -/
def seesN (k : KD) (r : Int) (n : Nat) : List (List Int × Int) := ((k.lines.take n).filter (atR r)).map fun l => (l.xs, l.ls)
theorem seesN_len (k : KD) (r : Int) (n : Nat) : (seesN k r n).length ≤ n := by
  unfold seesN
  rw [List.length_map]
  exact Nat.le_trans (List.length_filter_le _ _) (by rw [List.length_take]; omega)
/-- A row of what wires hold, all of it laid since. -/
def HdF (B : Nat) (w : World) (v : Value) (xs : List (List Int × Int)) : Prop := ∃ l, HdR B w v l xs ∧ ∀ x ∈ l, ∀ g, x.1.ownBlock = some g → B ≤ g
/-- What is written lies ahead of it. -/
theorem HdF.touch {B : Nat} {W W' : World} {v : Value} {xs : List (List Int × Int)} (h : HdF B W v xs) {M : List Nat} (ht : KTouch M W W') (hM : ∀ m ∈ M, m < B) : HdF B W' v xs := by
  obtain ⟨l, h, hf⟩ := h
  refine ⟨l, ⟨own_block h.own (fun g hg => ht.block g (h.own.lt g hg).2 (fun hm => ?_)), h.len, fun i x y hx hy => ?_, fun x hx g hg => ?_⟩, hf⟩
  · have := hM g hm
    have := (h.own.lt g hg).1
    omega
  · obtain ⟨h1, h2⟩ := h.rd i x y hx hy
    refine ⟨h1.block (fun g hg he => ht.block g hg (fun hm => ?_)) ht.size, h2⟩
    have := hM g hm
    have := hf x (List.mem_of_getElem? hx) g he
    omega
  · obtain ⟨h2, h3⟩ := h.ap x hx g hg
    exact ⟨Nat.lt_of_lt_of_le h2 ht.size, h3⟩
set_option maxRecDepth 100000 in
set_option maxHeartbeats 8000000 in
theorem saround_any {G : World → Prop} (C : KerC G) (CW : KerWire C) {w0 W : World} {p : PD} {vc vs vw : Value} {k : KD} {kb : Nat} {F : List Nat} (iw : Value) (r : Int) (h : C.K w0 W p vc vs vw k kb F) (hk : KOk p k) (hp : plchk p = 0) (hW : Wrs W iw p.wires) :
    Calls Tryd.prog 39 #[.pointer (some ⟨kb, 0, none⟩), iw, .int .i64 r] W fun e w' => ∃ ao m cap, e = .returned (.tuple #[.slice ao m cap, .nilIface]) ∧ HdF W.heap.size w' (.slice ao m cap) (seesK k r) ∧ Below W.heap.size W w' := by
  obtain ⟨jj, hj, hy0, hy1, hy2⟩ := info_parts infoHd
  obtain ⟨wa, wcap, rfl⟩ := hW.form
  have H : Hid (∀ wr, Below W.heap.size W wr → C.K w0 wr p vc vs vw k kb F) := fun wr hb => C.frame h (KTouch.of (M := []) hb) (by simp)
  have HW : Hid (Wrs W (.slice wa p.wires.length wcap) p.wires) := hW
  have hw12 : p.wires.length ≤ 12 := (wschk_ok (plchk_zero hp).2.2.2.1).1
  have hll := hk.ll
  clear h hW
  go_enter Tryd.func39, Tryd.ntmps39
  go_wp2
  go_loopw [8, 15] (fun v i wr => ∃ (n : Nat) (l : List (Value × Int)), n ≤ p.wires.length ∧ i = .int .i64 n ∧ HdR W.heap.size wr v l (seesN k r n) ∧ (∀ x ∈ l, ∀ g, x.1.ownBlock = some g → W.heap.size ≤ g) ∧ Below W.heap.size W wr) (fun _ i _ => p.wires.length - (intOf i).toNat)
  case atStart => exact ⟨0, [], Nat.zero_le _, rfl, HdR.nil _ _, fun x hx => (by cases hx), Below.refl _ _⟩
  case round =>
    obtain ⟨n, l, hn, rfl, hrow, hfr0, hbw⟩ := hrel
    have HF0 : Hid (∀ x ∈ l, ∀ g, x.1.ownBlock = some g → W.heap.size ≤ g) := hfr0
    clear hfr0
    obtain ⟨vo, vn, vk, rfl⟩ := own_form hrow.own
    have hsw := hbw.size
    by_cases hnl : n < p.wires.length
    · have hni : (n : Int) < (p.wires.length : Int) := by omega
      obtain ⟨xb, xo, f, t, kd, d, rfl, hxlt, hx, c0, c1, c2, c3⟩ := HW.out.at hnl
      replace c0 := (hbw.cell (p := ⟨xb, _, none⟩) hxlt).trans c0
      replace c1 := (hbw.cell (p := ⟨xb, _, none⟩) hxlt).trans c1
      replace c2 := (hbw.cell (p := ⟨xb, _, none⟩) hxlt).trans c2
      replace c3 := (hbw.cell (p := ⟨xb, _, none⟩) hxlt).trans c3
      obtain ⟨ln, hl⟩ : ∃ ln, k.lines[n]? = some ln := ⟨_, List.getElem?_eq_getElem (by rw [hll]; exact hnl)⟩
      have hlw := (hk.lines n ln _ hl hx).w
      have HT := sees_takeG k.lines r n ln hl
      have hat : atR r ln = (decide (f = r) || decide (t = r)) := by
        unfold atR
        rw [hlw]
      rw [hat] at HT
      have HRw : Hid (HdR W.heap.size wr (.slice vo vn vk) l (seesN k r n)) := hrow
      have hx8 := World.new_ne wr ⟨xb, _, none⟩ c0
      by_cases hor : f = r ∨ (f ≠ r ∧ t = r)
      · have HX : Hid (seesN k r (n + 1) = seesN k r n ++ [(ln.xs, ln.ls)]) := by
          show _ = _
          unfold seesN
          rw [HT, if_pos]
          rcases hor with e | ⟨_, e⟩ <;> simp [e]
        have hl12 : l.length + 1 ≤ 12 := by
          have h1 := hrow.len
          have h2 := seesN_len k r n
          omega
        have hno : noLine k n = false := by
          unfold noLine
          rw [hll, Bool.or_eq_false_iff]
          exact ⟨decide_eq_false (by omega), decide_eq_false (by omega)⟩
        have hlk : lineK k n = ln := by
          unfold lineK
          rw [if_neg (by rw [hno]; decide), Int.toNat_natCast]
          simp [List.getD, hl]
        have HC : Hid (∀ WW, Below wr.heap.size wr WW → Calls Tryd.prog 15 #[.pointer (some ⟨kb, 0, none⟩), .int .i64 n] WW fun e w' => ∃ ao m cu, e = .returned (.tuple #[.agg #[.slice ao m cu, .int .i64 ln.ls], .nilIface]) ∧ Rd w' (.slice ao m cu) ln.xs ∧ (∀ g, (Value.slice ao m cu).ownBlock = some g → WW.heap.size ≤ g ∧ g < w'.heap.size) ∧ Below WW.heap.size WW w') := fun WW hb => by
          have := CW n (H.out WW (hbw.trans (hb.mono hsw))) hk hp
          rw [hlk, hno] at this
          refine this.mono ?_
          rintro e w' ⟨u, rfl, h1, h2, h3⟩
          have hf : ∃ ao m cu, u = .slice ao m cu := by
            rcases h1 with ⟨_, ao, cu, h4⟩ | ⟨g, off, cu, h4, _⟩
            · exact ⟨_, _, _, h4⟩
            · exact ⟨_, _, _, h4⟩
          obtain ⟨ao, m, cu, rfl⟩ := hf
          exact ⟨ao, m, cu, rfl, h1, h2, h3⟩
        clear HT hrow hat hl hx hlw hno hlk
        go_upto_region 5 with fail
        have hA : Below wr.heap.size wr (wr.alloc (.cells #[.int .i64 f, .int .i64 t, .int .i64 kd, .int .i64 d] 23)) := (Below.refl _ _).alloc (Nat.le_refl _) _
        go_cut [15, 29] from 15 to 43 (fun s15 s29 wx => s15 = .int .i64 n ∧ s29 = .bool false ∧ Below wr.heap.size wr wx)
        case first =>
          rcases hor with e | ⟨e1, e2⟩
          · have hq : (f != r) = false := by simp [e]
            go_wp2
            go_meet
            case rel => exact ⟨rfl, rfl, (Below.refl _ _).alloc (Nat.le_refl _) _⟩
          · have hq : (f != r) = true := by simpa using e1
            have hq2 : (t != r) = false := by simp [e2]
            go_wp2
            go_meet
            case rel => exact ⟨rfl, rfl, (Below.refl _ _).alloc (Nat.le_refl _) _⟩
        case rest =>
          clear hA hor c0 c1 c2 c3
          obtain ⟨rfl, rfl, hbc⟩ := hcut
          go_upto_region 9 with (go_at_call 15; refine (HC.out _ hbc).mono ?_; rintro e w2 ⟨ao, m, cu, rfl, hrd, hfr, b2⟩)
          have hB1 : Below wr.heap.size wr (w2.alloc (.cells #[.slice ao m cu, .int .i64 ln.ls] 58)) := (hbc.trans (b2.mono hbc.size)).alloc (Nat.le_trans hbc.size b2.size) _
          have hrow3 := HRw.out.all hB1
          have own3 := hrow3.own
          have hs2 := b2.size
          have hsc := hbc.size
          have HFin : Hid (∀ (v1 : Value) (w8 : World), w8.ownsRow W.heap.size 58 2 v1 (l.length + 1) (hdCells l ++ [.slice ao m cu, .int .i64 ln.ls]) → ((w2.alloc (.cells #[.slice ao m cu, .int .i64 ln.ls] 58)).alloc (.cells #[.slice ao m cu, .int .i64 ln.ls] 58)).grownBy w8 (Value.slice vo vn vk).ownBlock → (∀ g, v1.ownBlock = some g → (Value.slice vo vn vk).ownBlock = some g ∨ w2.heap.size + 2 ≤ g) → HdR W.heap.size w8 v1 (l ++ [(.slice ao m cu, ln.ls)]) (seesN k r (n + 1)) ∧ Below W.heap.size W w8) := fun v1 w8 o1 o2 o3 => by
            rw [HX.out]
            have hrd' : Rd (w2.alloc (.cells #[.slice ao m cu, .int .i64 ln.ls] 58)) (.slice ao m cu) ln.xs := hrd.all ((Below.refl _ _).alloc (Nat.le_refl _) _)
            refine ⟨hrow3.more (y := (ln.xs, ln.ls)) hrd' (fun g hg => ⟨?_, fun e => ?_⟩) o2 o1 (fun g hg => ?_), ?_⟩
            · have := (hfr g hg).2
              simp
              omega
            · have := (HRw.out.own.lt g e).2
              have := (hfr g hg).1
              omega
            · have := o3 g hg
              simpa using this
            · exact ((hbw.trans (hB1.mono hsw)).alloc (by simp; omega) _).grown o2 (by simp; omega) (fun j hj => (HRw.out.own.lt j hj).1)
          have HF1 : Hid (∀ x ∈ l ++ [(Value.slice ao m cu, ln.ls)], ∀ g, x.1.ownBlock = some g → W.heap.size ≤ g) := fun x hx g hg => by
            rcases List.mem_append.1 hx with h1 | h1
            · exact HF0.out x h1 g hg
            · rw [List.mem_singleton] at h1
              subst h1
              have := (hfr g hg).1
              omega
          clear hB1 hrow3 hrd hfr b2
          go_wp2_with (at_builtin; refine wpList_append_at _ rfl _ _ 55 rfl W.heap.size 58 jj _ 2 32 Tryd.underlying55 hj hy0 hy1 hy2 rfl (by decide) _ _ _ rfl (own3.alloc _) ⟨w2.heap.size + 1, 0, none⟩ 1 1 [.slice ao m cu, .int .i64 ln.ls] rfl rfl ?c1A ?c2A ?c3A ?c4A ?c5A ?_)
          case c1A => exact hd_new (by simp) _ _ _
          case c2A => intro u hu; simp at hu; rcases hu with rfl | rfl <;> rfl
          case c3A => unfold maxLen; omega
          case c4A => omega
          case c5A => simp; omega
          intro v1 w8 own8 hg8 hnw8
          have HQ := HFin.out v1 w8 own8 hg8 (fun g hg => by have := hnw8 g hg; simpa using this)
          obtain ⟨g8, cap8, rfl⟩ := own_succ own8
          have HQ1 : Hid (HdR W.heap.size w8 (.slice (some ⟨g8, 0, none⟩) (l.length + 1) cap8) (l ++ [(.slice ao m cu, ln.ls)]) (seesN k r (n + 1))) := HQ.1
          have HQ2 : Hid (Below W.heap.size W w8) := HQ.2
          clear own8 hg8 hnw8 own3 HQ HFin
          go_wp2
          go_roundw
          case rel => exact ⟨n + 1, _, by omega, by go_num, HQ1.out, HF1.out, HQ2.out⟩
          case measure => simp [intOf]; omega
      · have hf1 : f ≠ r := fun e => hor (Or.inl e)
        have ht1 : t ≠ r := fun e => hor (Or.inr ⟨hf1, e⟩)
        have HX : Hid (seesN k r (n + 1) = seesN k r n) := by
          show _ = _
          unfold seesN
          rw [HT, if_neg (by simp [hf1, ht1]), List.append_nil]
        have hq1 : (f != r) = true := by simpa using hf1
        have hq2 : (t != r) = true := by simpa using ht1
        clear HT hrow hat hl hx hlw hor
        go_wp2
        go_roundw
        case rel => exact ⟨n + 1, l, by omega, by go_num, by rw [HX.out]; exact HRw.out.all ((Below.refl _ _).alloc (Nat.le_refl _) _), HF0.out, hbw.alloc hsw _⟩
        case measure => simp [intOf]; omega
    · obtain rfl : n = p.wires.length := by omega
      have hq : decide ((p.wires.length : Int) < (p.wires.length : Int)) = false := decide_eq_false (by omega)
      have hq' : decide (p.wires.length < p.wires.length) = false := decide_eq_false (by omega)
      have HRw : Hid (HdF W.heap.size wr (.slice vo vn vk) (seesK k r)) := by
        refine ⟨l, ?_, HF0.out⟩
        have := hrow
        unfold seesN at this
        rw [← hll, List.take_length] at this
        exact this
      clear hrow
      go_wp2
      go_ret2
      exact ⟨_, _, _, rfl, HRw.out, hbw⟩
end Go.Proofs.YtajfgmlockjmhadDoor
namespace Go.Proofs.YtajfgmlockjmhadDoor
open Go.RowKit

/-- The first of a room's states. -/
def stsK (p : PD) (t r : Nat) : List St := (List.range t).map fun i => (kT p i).rooms.getD r stNew
theorem stsK_len (p : PD) (t r : Nat) : (stsK p t r).length = t := by simp [stsK]
theorem stsK_succ (p : PD) (t r : Nat) : stsK p (t + 1) r = stsK p t r ++ [(kT p t).rooms.getD r stNew] := by
  unfold stsK
  rw [List.range_succ, List.map_append]
  rfl
theorem stsK_all (p : PD) (n r : Nat) : stsK p (n + 1) r = statesK p n r := rfl
/-- A row of the caller's own has grown. -/
theorem KTouch.rowG {w w2 wa : World} {row : Option Nat} (hb : Below w.heap.size w w2) (hg : w2.grownBy wa row) : KTouch row.toList w wa :=
  ⟨hg.os.trans hb.os, hg.tape.trans hb.tape, hg.output.trans hb.output, Nat.le_trans hb.size hg.size, fun k hk hm => by
    have := hb.size
    exact (hg.block k (by omega) (fun e => hm (by rw [← e]; simp))).trans (hb.block k hk)⟩
/-- A kernel, and a row of states beside it. -/
structure SRn {G : World → Prop} (C : KerC G) (w0 wr : World) (p : PD) (vc vs vw : Value) (kb B r t : Nat) (v : Value) (F : List Nat) : Prop where
  K : C.K w0 wr p vc vs vw (kT p t) kb F
  own : wr.ownsRow B 48 8 v t (stCells (stsK p t r))
  ap : ∀ g, v.ownBlock = some g → g ∉ F
  B1 : w0.heap.size ≤ B
  B2 : B ≤ wr.heap.size
/-- One more state, and a tick. -/
theorem SRn.more {G : World → Prop} {C : KerC G} {w0 wr w3 w8 : World} {p : PD} {vc vs vw : Value} {kb B r t : Nat} {v v' : Value} {F : List Nat} {s : St} (h : SRn C w0 wr p vc vs vw kb B r t v F) (hs : (kT p t).rooms.getD r stNew = s) (b3 : Below wr.heap.size wr w3) (hg : w3.grownBy w8 v.ownBlock)
    (own8 : w8.ownsRow B 48 8 v' (t + 1) (stCells (stsK p t r) ++ [.int .i64 s.p, .int .i64 (s.c 0), .int .i64 (s.c 1), .int .i64 (s.c 2), .int .i64 (s.c 3), .int .i64 (s.c 4), .int .i64 (s.c 5), .bool s.f])) (hnew : ∀ g, v'.ownBlock = some g → v.ownBlock = some g ∨ w3.heap.size ≤ g) (hG : G w0) (hp : plchk p = 0) (ht : t < 1000000) :
    Calls Tryd.prog 11 #[.pointer (some ⟨kb, 0, none⟩)] w8 fun e w' => ∃ a b c d, e = .returned (.agg #[.int .i64 a, .int .i64 b, .int .i64 c, .int .i64 d]) ∧ ∃ F', SRn C w0 w' p vc vs vw kb B r (t + 1) v' F' := by
  have tk := KTouch.rowG b3 hg
  have hK8 := C.frame h.K tk (fun m hm => by
    have hm' : v.ownBlock = some m := by simpa using hm
    exact ⟨h.ap m hm', Nat.le_trans h.B1 (h.own.lt m hm').1⟩)
  refine (C.tick hG hK8 hp (kT_ok hp t) (by rw [kT_time]; omega)).mono ?_
  rintro e w' ⟨rfl, F', hK', tk', hF'⟩
  have hs8 := tk.size
  have hs3 := b3.size
  have hg8 := hg.size
  have hap8 : ∀ g, v'.ownBlock = some g → g ∉ F := fun g hg' hm => by
    rcases hnew g hg' with h1 | h1
    · exact h.ap g h1 hm
    · have := (C.ge h.K g hm).2
      omega
  refine ⟨_, _, _, _, rfl, F', hK', ?_, fun g hg' hm => ?_, h.B1, Nat.le_trans h.B2 (Nat.le_trans hs8 tk'.size)⟩
  · rw [stsK_succ, stCells_snoc, hs]
    exact own_block own8 (fun g hg' => tk'.block g (own8.lt g hg').2 (hap8 g hg'))
  · rcases hF' g hm with h1 | h1
    · exact hap8 g hg' h1
    · have := (own8.lt g hg').2
      omega
set_option maxRecDepth 100000 in
set_option maxHeartbeats 8000000 in
theorem srun_wrong {G : World → Prop} (C : KerC G) (p : PD) (vc vs vw : Value) (n r : Int) (W : World) (hG : G W) (hP : Pln W vc vs vw p) (hp : plchk p ≠ 0) :
    Calls Tryd.prog 19 #[plV vc p.ticks vs vw, .int .i64 n, .int .i64 r] W fun e w' => e = .returned (.tuple #[.slice none 0 0, wErr (plchk p)]) ∧ Below W.heap.size W w' := by
  obtain ⟨ca, cc, rfl⟩ := hP.code.form
  obtain ⟨sa, sc, rfl⟩ := hP.spans.form
  obtain ⟨wa, wc', rfl⟩ := hP.wires.form
  have hx0 := Bx.first W (.slice ca p.code.length cc) p.ticks (.slice sa p.spans.length sc) (.slice wa p.wires.length wc')
  have q1 := C.no p _ _ _ _ (C.all _ _ hG hx0.below) (hP.all hx0.below) hp
  rw [wErr_not hp] at q1 ⊢
  unfold plV at q1 ⊢
  have k0 := hx0.c0
  have k1 := hx0.c1
  have k2 := hx0.c2
  have k3 := hx0.c3
  clear hP hG
  generalize plchk p = z at q1 hp ⊢
  go_enter Tryd.func19, Tryd.ntmps19
  go_wp2_with (go_at_call 10; refine q1.mono ?_; rintro e w1 ⟨x, rfl, b1⟩)
  go_ret2
  exact ⟨rfl, (hx0.step b1).below⟩
set_option maxRecDepth 100000 in
set_option maxHeartbeats 8000000 in
theorem srun_n {G : World → Prop} (C : KerC G) (p : PD) (vc vs vw : Value) (n r : Int) (W : World) (hG : G W) (hP : Pln W vc vs vw p) (hp : plchk p = 0) (hn : n < 0 ∨ 2000 < n) :
    Calls Tryd.prog 19 #[plV vc p.ticks vs vw, .int .i64 n, .int .i64 r] W fun e w' => e = .returned (.tuple #[.slice none 0 0, wErr 1]) ∧ Below W.heap.size W w' := by
  obtain ⟨ca, cc, rfl⟩ := hP.code.form
  obtain ⟨sa, sc, rfl⟩ := hP.spans.form
  obtain ⟨wa, wc', rfl⟩ := hP.wires.form
  have hx0 := Bx.first W (.slice ca p.code.length cc) p.ticks (.slice sa p.spans.length sc) (.slice wa p.wires.length wc')
  have q1 : Calls Tryd.prog 10 #[.agg #[.slice ca p.code.length cc, .int .i64 p.ticks, .slice sa p.spans.length sc, .slice wa p.wires.length wc']] (W.alloc (.cells #[.slice ca p.code.length cc, .int .i64 p.ticks, .slice sa p.spans.length sc, .slice wa p.wires.length wc'] 31)) fun e w' => ∃ kb, e = .returned (.tuple #[.pointer (some ⟨kb, 0, none⟩), .nilIface]) ∧ Below W.heap.size W w' := by
    refine (C.new p _ _ _ _ (C.all _ _ hG hx0.below) (hP.all hx0.below) hp).mono ?_
    rintro e w' ⟨kb, F, rfl, hK⟩
    exact ⟨kb, rfl, hx0.below.trans ((C.since hK).mono (by simp))⟩
  unfold plV
  have k0 := hx0.c0
  have k1 := hx0.c1
  have k2 := hx0.c2
  have k3 := hx0.c3
  clear hP hG hp
  have hcase : decide (n < 0) = true ∨ (decide (n < 0) = false ∧ decide (2000 < n) = true) := by
    by_cases h : n < 0
    · exact Or.inl (decide_eq_true h)
    · exact Or.inr ⟨decide_eq_false h, decide_eq_true (hn.resolve_left h)⟩
  clear hn
  rcases hcase with h1 | ⟨h1, h2⟩
  · go_enter Tryd.func19, Tryd.ntmps19
    go_wp2_with (go_at_call 10; refine q1.mono ?_; rintro e w1 ⟨kb, rfl, b1⟩)
    go_ret2
    exact ⟨rfl, b1⟩
  · go_enter Tryd.func19, Tryd.ntmps19
    go_wp2_with (go_at_call 10; refine q1.mono ?_; rintro e w1 ⟨kb, rfl, b1⟩)
    go_ret2
    exact ⟨rfl, b1⟩
set_option maxRecDepth 100000 in
set_option maxHeartbeats 8000000 in
theorem srun_room {G : World → Prop} (C : KerC G) (p : PD) (vc vs vw : Value) (n : Nat) (r : Int) (W : World) (hG : G W) (hP : Pln W vc vs vw p) (hp : plchk p = 0) (hn : n ≤ 2000) (hr : r < 0 ∨ (p.code.length : Int) ≤ r) :
    Calls Tryd.prog 19 #[plV vc p.ticks vs vw, .int .i64 n, .int .i64 r] W fun e w' => e = .returned (.tuple #[.slice none 0 0, wErr 1]) ∧ Below W.heap.size W w' := by
  obtain ⟨ca, cc, rfl⟩ := hP.code.form
  obtain ⟨sa, sc, rfl⟩ := hP.spans.form
  obtain ⟨wa, wc', rfl⟩ := hP.wires.form
  have hx0 := Bx.first W (.slice ca p.code.length cc) p.ticks (.slice sa p.spans.length sc) (.slice wa p.wires.length wc')
  have q1 : Calls Tryd.prog 10 #[.agg #[.slice ca p.code.length cc, .int .i64 p.ticks, .slice sa p.spans.length sc, .slice wa p.wires.length wc']] (W.alloc (.cells #[.slice ca p.code.length cc, .int .i64 p.ticks, .slice sa p.spans.length sc, .slice wa p.wires.length wc'] 31)) fun e w' => ∃ kb, e = .returned (.tuple #[.pointer (some ⟨kb, 0, none⟩), .nilIface]) ∧ Below W.heap.size W w' ∧ Calls Tryd.prog 12 #[.pointer (some ⟨kb, 0, none⟩), .int .i64 r] w' fun e w2 => e = .returned (.tuple #[stA stNew, wErr 1]) ∧ Below w'.heap.size w' w2 := by
    refine (C.new p _ _ _ _ (C.all _ _ hG hx0.below) (hP.all hx0.below) hp).mono ?_
    rintro e w' ⟨kb, F, rfl, hK⟩
    have hno : noRoom (newK p) r = true := by
      have hl : (newK p).rooms.length = p.code.length := by simp [newK]
      unfold noRoom
      rw [hl, Bool.or_eq_true]
      rcases hr with h | h
      · exact Or.inl (decide_eq_true h)
      · exact Or.inr (decide_eq_true h)
    have hS := C.state r hK (kT_ok hp 0) hp
    have hrk : roomK (newK p) r = stNew := by
      unfold roomK
      rw [if_pos hno]
    rw [hrk, hno] at hS
    exact ⟨kb, rfl, hx0.below.trans ((C.since hK).mono (by simp)), hS⟩
  unfold plV
  have k0 := hx0.c0
  have k1 := hx0.c1
  have k2 := hx0.c2
  have k3 := hx0.c3
  clear hP hG hp hr
  have hn0 : decide ((n : Int) < 0) = false := decide_eq_false (by omega)
  have hn1 : decide (2000 < (n : Int)) = false := decide_eq_false (by omega)
  have hn3 : (0 : Int) < (n : Int) + 1 := by omega
  unfold stA stNew wErr at q1
  go_enter Tryd.func19, Tryd.ntmps19
  go_wp2_with (go_at_call 10; refine q1.mono ?_; rintro e w1 ⟨kb, rfl, b1, q2⟩)
  refine wp_loop_rounds 1 ?_
  rw [rounds_succ]
  go_wp2_with (go_at_call 12; refine q2.mono ?_; rintro e w2 ⟨rfl, b2⟩)
  go_ret2
  refine ⟨rfl, ?_⟩
  have hb := b1.trans (b2.mono b1.size)
  have hs := hb.size
  repeat' first | exact hb | refine Below.drew ?_ | refine Below.alloc ?_ (by first | omega | (simp; omega)) _ | refine Below.setCell ?_ (by first | omega | (simp; omega)) _
set_option maxRecDepth 100000 in
set_option maxHeartbeats 8000000 in
theorem srun_ok {G : World → Prop} (C : KerC G) (p : PD) (vc vs vw : Value) (n r : Nat) (W : World) (hG : G W) (hP : Pln W vc vs vw p) (hp : plchk p = 0) (hn : n ≤ 2000) (hr : r < p.code.length) :
    Calls Tryd.prog 19 #[plV vc p.ticks vs vw, .int .i64 n, .int .i64 r] W fun e w' => ∃ v, e = .returned (.tuple #[v, .nilIface]) ∧ StL w' v (statesK p n r) ∧ Below W.heap.size W w' := by
  obtain ⟨jj, hj, hy0, hy1, hy2⟩ := info_parts infoSt
  obtain ⟨ca, cc, rfl⟩ := hP.code.form
  obtain ⟨sa, sc, rfl⟩ := hP.spans.form
  obtain ⟨wa, wc', rfl⟩ := hP.wires.form
  have hx0 := Bx.first W (.slice ca p.code.length cc) p.ticks (.slice sa p.spans.length sc) (.slice wa p.wires.length wc')
  have HG : Hid (G (W.alloc (.cells #[.slice ca p.code.length cc, .int .i64 p.ticks, .slice sa p.spans.length sc, .slice wa p.wires.length wc'] 31))) := C.all _ _ hG hx0.below
  have hA := hx0.below
  have HN : Hid (Calls Tryd.prog 10 #[.agg #[.slice ca p.code.length cc, .int .i64 p.ticks, .slice sa p.spans.length sc, .slice wa p.wires.length wc']] (W.alloc (.cells #[.slice ca p.code.length cc, .int .i64 p.ticks, .slice sa p.spans.length sc, .slice wa p.wires.length wc'] 31)) fun e w' => ∃ kb F, e = .returned (.tuple #[.pointer (some ⟨kb, 0, none⟩), .nilIface]) ∧ C.K (W.alloc (.cells #[.slice ca p.code.length cc, .int .i64 p.ticks, .slice sa p.spans.length sc, .slice wa p.wires.length wc'] 31)) w' p (.slice ca p.code.length cc) (.slice sa p.spans.length sc) (.slice wa p.wires.length wc') (newK p) kb F) := C.new p _ _ _ _ HG.out (hP.all hx0.below) hp
  unfold plV
  have k0 := hx0.c0
  have k1 := hx0.c1
  have k2 := hx0.c2
  have k3 := hx0.c3
  have HGs : Hid (∀ t, noRoom (kT p t) r = false ∧ roomK (kT p t) r = (kT p t).rooms.getD r stNew) := fun t => by
    have hl : (kT p t).rooms.length = p.code.length := (kT_ok hp t).rl
    have hno : noRoom (kT p t) r = false := by
      unfold noRoom
      rw [hl, Bool.or_eq_false_iff]
      exact ⟨decide_eq_false (by omega), decide_eq_false (by omega)⟩
    refine ⟨hno, ?_⟩
    unfold roomK
    rw [if_neg (by rw [hno]; decide), Int.toNat_natCast]
  clear hP hG
  have hn0 : decide ((n : Int) < 0) = false := decide_eq_false (by omega)
  have hn1 : decide (2000 < (n : Int)) = false := decide_eq_false (by omega)
  go_enter Tryd.func19, Tryd.ntmps19
  go_wp2_with (go_at_call 10; refine HN.out.mono ?_; rintro e w1 ⟨kb, F, rfl, hK⟩)
  clear HN
  generalize W.alloc (.cells #[.slice ca p.code.length cc, .int .i64 p.ticks, .slice sa p.spans.length sc, .slice wa p.wires.length wc'] 31) = W0 at *
  go_loopw [10, 30] (fun v i wr => ∃ (t : Nat) (F : List Nat), t ≤ n + 1 ∧ i = .int .i64 t ∧ SRn C W0 wr p (.slice ca p.code.length cc) (.slice sa p.spans.length sc) (.slice wa p.wires.length wc') kb w1.heap.size r t v F) (fun _ i _ => n + 1 - (intOf i).toNat)
  case atStart => exact ⟨0, F, Nat.zero_le _, rfl, hK, World.ownsRow_nil _ _ _ _, fun g hg => (by cases hg), (C.since hK).size, Nat.le_refl _⟩
  case round =>
    clear hK
    obtain ⟨t, F', htn, rfl, hst⟩ := hrel
    obtain ⟨vo, vn, vk, rfl⟩ := own_form hst.own
    have hbw := C.since hst.K
    by_cases htl : t < n + 1
    · have hti : (t : Int) < (n : Int) + 1 := by omega
      obtain ⟨hno, hrk⟩ := HGs.out t
      obtain ⟨s, hs⟩ : ∃ s, (kT p t).rooms.getD r stNew = s := ⟨_, rfl⟩
      have HS : Hid ((kT p t).rooms.getD r stNew = s) := hs
      have hS := C.state r hst.K (kT_ok hp t) hp
      rw [hno, hrk, hs] at hS
      have HT : Hid (Calls Tryd.prog 12 #[.pointer (some ⟨kb, 0, none⟩), .int .i64 r] wr fun e w2 => e = .returned (.tuple #[.agg #[.int .i64 s.p, .int .i64 (s.c 0), .int .i64 (s.c 1), .int .i64 (s.c 2), .int .i64 (s.c 3), .int .i64 (s.c 4), .int .i64 (s.c 5), .bool s.f], .nilIface]) ∧ Below wr.heap.size wr w2) := hS
      have HR : Hid (SRn C W0 wr p (.slice ca p.code.length cc) (.slice sa p.spans.length sc) (.slice wa p.wires.length wc') kb w1.heap.size r t (.slice vo vn vk) F') := hst
      have hown0 := hst.own
      have hB2 := hst.B2
      clear hS hs hst hno hrk
      go_upto_region 9 with fail
      go_cut [11, 12, 30] from 30 to 47 (fun s11 s12 s30 wx => s12 = .nilIface ∧ s30 = .int .i64 t ∧ ∃ g, s11 = .pointer (some ⟨g, 0, none⟩) ∧ StC wx g 0 s ∧ Below wr.heap.size wr wx)
      case first =>
        go_wp2_with (go_at_call 12; refine HT.out.mono ?_; rintro e w2 ⟨rfl, b2⟩)
        go_meet
        case rel =>
          refine ⟨rfl, rfl, w2.heap.size, rfl, ?_, ?_⟩
          · constructor <;> simp [go_sem]
          · have hs2 := b2.size
            repeat' first | exact b2 | refine Below.drew ?_ | refine Below.alloc ?_ (by first | omega | (simp; omega)) _ | refine Below.setCell ?_ (by first | omega | (simp; omega)) _
      case rest =>
        obtain ⟨rfl, rfl, g, rfl, hsc, hbc⟩ := hcut
        obtain ⟨q0, q1, q2, q3, q4, q5, q6, q7⟩ := hsc
        have own3 := own_block hown0 (fun k hk => hbc.block k (hown0.lt k hk).2)
        have hsz := hbc.size
        clear HT hown0
        go_wp2_with (at_builtin; refine wpList_append_at _ rfl _ _ 54 rfl w1.heap.size 48 jj _ 8 64 Tryd.underlying54 hj hy0 hy1 hy2 rfl (by decide) _ _ _ rfl (own3.alloc _) ⟨wc.heap.size, 0, none⟩ 1 1 [.int .i64 s.p, .int .i64 (s.c 0), .int .i64 (s.c 1), .int .i64 (s.c 2), .int .i64 (s.c 3), .int .i64 (s.c 4), .int .i64 (s.c 5), .bool s.f] rfl rfl ?c1A ?c2A ?c3A ?c4A ?c5A ?_)
        try (case c1A => exact st_new rfl s _)
        case c2A => first | exact st_one s | exact ⟨rfl, rfl, rfl, rfl, rfl, rfl, rfl, rfl⟩
        case c3A => unfold maxLen; omega
        case c4A => omega
        case c5A => first | omega | (simp; omega)
        intro v1 w8 own8 hg8 hnw8
        have hb3 : Below wr.heap.size wr (wc.alloc (.cells #[.int .i64 s.p, .int .i64 (s.c 0), .int .i64 (s.c 1), .int .i64 (s.c 2), .int .i64 (s.c 3), .int .i64 (s.c 4), .int .i64 (s.c 5), .bool s.f] 48)) := hbc.alloc hbc.size _
        have HQ : Hid (Calls Tryd.prog 11 #[.pointer (some ⟨kb, 0, none⟩)] w8 fun e w' => ∃ a b c d, e = .returned (.agg #[.int .i64 a, .int .i64 b, .int .i64 c, .int .i64 d]) ∧ ∃ F', SRn C W0 w' p (.slice ca p.code.length cc) (.slice sa p.spans.length sc) (.slice wa p.wires.length wc') kb w1.heap.size r (t + 1) v1 F') := HR.out.more HS.out hb3 hg8 own8 (fun g hg => by have := hnw8 g hg; simpa using this) HG.out hp (by omega)
        obtain ⟨g8, cap8, rfl⟩ := own_succ own8
        clear own8 hg8 hnw8 own3 q0 q1 q2 q3 q4 q5 q6 q7 hb3
        go_wp2_with (go_at_call 11; refine HQ.out.mono ?_; rintro e w9 ⟨ea, eb, ec, ed, rfl, F9, hst9⟩)
        go_roundw
        case rel => exact ⟨t + 1, F9, by omega, by go_num, hst9⟩
        case measure => simp [intOf]; omega
    · obtain rfl : t = n + 1 := by omega
      have hti : decide (((n + 1 : Nat) : Int) < (n : Int) + 1) = false := decide_eq_false (by omega)
      have HS : Hid (StL wr (.slice vo vn vk) (statesK p n r)) := StL.own (by rw [statesK_len]; exact hst.own)
      have HB' : Hid (Below W.heap.size W wr) := hA.trans (hbw.mono hA.size)
      clear hst
      go_wp2
      go_ret2
      exact ⟨_, rfl, HS.out, HB'.out⟩
/-- Run does what the laws of sight ask of it. -/
theorem sgt_run {G : World → Prop} (C : KerC G) : SgtRun G := fun p vc vs vw n r W hG hP => by
  by_cases hp : plchk p = 0
  · by_cases hn : n < 0 ∨ 2000 < n
    · have he : runE p n r = 1 := by
        unfold runE
        rw [if_pos hp, if_pos (by omega)]
      rw [he]
      refine (srun_n C p vc vs vw n r W hG hP hp hn).mono ?_
      rintro e w' ⟨rfl, hb⟩
      exact ⟨_, rfl, Or.inl ⟨rfl, _, _, rfl⟩, hb⟩
    · obtain ⟨n, rfl⟩ : ∃ m : Nat, n = m := ⟨n.toNat, by omega⟩
      by_cases hr : r < 0 ∨ (p.code.length : Int) ≤ r
      · have he : runE p n r = 1 := by
          unfold runE
          rw [if_pos hp, if_pos (by omega)]
        rw [he]
        refine (srun_room C p vc vs vw n r W hG hP hp (by omega) hr).mono ?_
        rintro e w' ⟨rfl, hb⟩
        exact ⟨_, rfl, Or.inl ⟨rfl, _, _, rfl⟩, hb⟩
      · obtain ⟨r, rfl⟩ : ∃ m : Nat, r = m := ⟨r.toNat, by omega⟩
        have he : runE p n r = 0 := by
          unfold runE
          rw [if_pos hp, if_neg (by omega)]
        rw [he, if_pos rfl, Int.toNat_natCast, Int.toNat_natCast]
        exact srun_ok C p vc vs vw n r W hG hP hp (by omega) (by omega)
  · have he : runE p n r = plchk p := by
      unfold runE
      rw [if_neg hp]
    rw [he, if_neg hp]
    refine (srun_wrong C p vc vs vw n r W hG hP hp).mono ?_
    rintro e w' ⟨rfl, hb⟩
    exact ⟨_, rfl, Or.inl ⟨rfl, _, _, rfl⟩, hb⟩
end Go.Proofs.YtajfgmlockjmhadDoor
namespace Go.Proofs.YtajfgmlockjmhadDoor
open Go.RowKit

/-- The cells of a line. -/
def LnC (w : World) (b : Nat) (kd dp ls : Int) (v : Value) : Prop := w.cell? ⟨b, 0, none⟩ = some (.int .i64 kd) ∧ w.cell? ⟨b, 1, none⟩ = some (.int .i64 dp) ∧ w.cell? ⟨b, 2, none⟩ = some v ∧ w.cell? ⟨b, 3, none⟩ = some (.int .i64 ls) ∧ w.frozen? ⟨b, 2, none⟩ = false ∧ w.frozen? ⟨b, 3, none⟩ = false
/-- A line that the call owns: its block lies ahead of 'base', its numbers in a row of their own from 'base' on. -/
structure Ln (w : World) (base b : Nat) (kd dp : Int) (xs : List Int) (ls : Int) (v : Value) : Prop where
  c : LnC w b kd dp ls v
  row : w.ownsRow base 3 1 v xs.length (ints xs)
  lt : b < base
  le : base ≤ w.heap.size
/-- What a call on a line changes: its block, the row of its numbers; and it makes memory. -/
structure Touch (w w' : World) (b : Nat) (v v' : Value) : Prop where
  os : w'.os = w.os
  tape : w'.tape = w.tape
  output : w'.output = w.output
  size : w.heap.size ≤ w'.heap.size
  block : ∀ k, k < w.heap.size → k ≠ b → some k ≠ v.ownBlock → w'.heap[k]? = w.heap[k]?
  new : ∀ k, v'.ownBlock = some k → v.ownBlock = some k ∨ w.heap.size ≤ k
theorem Touch.refl (w : World) (b : Nat) (v : Value) : Touch w w b v v := ⟨rfl, rfl, rfl, Nat.le_refl _, fun _ _ _ _ => rfl, fun _ h => Or.inl h⟩
theorem Touch.below {w w' : World} {b B : Nat} {v v' : Value} (h : Touch w w' b v v') (hb : B ≤ b) (hv : ∀ k, v.ownBlock = some k → B ≤ k) (hB : B ≤ w.heap.size) : Below B w w' :=
  ⟨h.os, h.tape, h.output, h.size, fun k hk => h.block k (by omega) (by omega) (fun e => by have := hv k e.symm; omega)⟩
theorem Touch.alloc {w w' : World} {b : Nat} {v v' : Value} (h : Touch w w' b v v') (o : Obj) : Touch w (w'.alloc o) b v v' :=
  ⟨h.os, h.tape, h.output, by have := h.size; simp; omega, fun k hk hb hv => by rw [Below.heap_alloc _ _ _ (Nat.lt_of_lt_of_le hk h.size)]; exact h.block k hk hb hv, h.new⟩
theorem Touch.drew {w w' : World} {b : Nat} {v v' : Value} (h : Touch w w' b v v') : Touch w w'.drew b v v' := ⟨h.os, h.tape, h.output, h.size, h.block, h.new⟩
theorem Touch.set {w w' : World} {b : Nat} {v v' : Value} (h : Touch w w' b v v') (i : Nat) (u : Value) : Touch w (w'.setCell ⟨b, i, none⟩ u) b v v' :=
  ⟨h.os, h.tape, h.output, by have := h.size; simpa using this, fun k hk hb hv => by rw [Below.heap_setCell _ _ _ _ hb]; exact h.block k hk hb hv, h.new⟩
theorem Touch.cut {w w' : World} {b : Nat} {v v' v2 : Value} (h : Touch w w' b v v') (he : v2.ownBlock = v'.ownBlock) : Touch w w' b v v2 := ⟨h.os, h.tape, h.output, h.size, h.block, by rw [he]; exact h.new⟩
theorem Touch.grown {w w' w2 : World} {b : Nat} {v v' v2 : Value} (h : Touch w w' b v v') (hg : w'.grownBy w2 v'.ownBlock) (hn : ∀ k, v2.ownBlock = some k → v'.ownBlock = some k ∨ w'.heap.size ≤ k) : Touch w w2 b v v2 :=
  ⟨hg.os.trans h.os, hg.tape.trans h.tape, hg.output.trans h.output, Nat.le_trans h.size hg.size, fun k hk hb hv => by
    rw [hg.block k (Nat.lt_of_lt_of_le hk h.size) (fun e => by rcases h.new k e.symm with h1 | h1; exact hv h1.symm; omega)]
    exact h.block k hk hb hv,
   fun k hk => by rcases hn k hk with h1 | h1; exact h.new k h1; right; have := h.size; omega⟩
theorem Touch.dN {w w' : World} {b : Nat} {v v' : Value} (h : Touch w w' b v v') : ∀ n, Touch w (w'.drewN n) b v v'
  | 0 => h
  | n + 1 => (Touch.dN h n).drew
theorem LnC.block {w w' : World} {b : Nat} {kd dp ls : Int} {v : Value} (h : LnC w b kd dp ls v) (hb : w'.heap[b]? = w.heap[b]?) : LnC w' b kd dp ls v := by
  have hc := fun o => World.cell?_of_block (w := w) (w' := w') (a := ⟨b, o, none⟩) hb
  have hf := fun o => World.frozen?_of_block (w := w) (w' := w') (a := ⟨b, o, none⟩) hb
  unfold LnC
  simp only [hc, hf]
  exact h
theorem LnC.items {w : World} {b : Nat} {kd dp ls : Int} {v : Value} (h : LnC w b kd dp ls v) (u : Value) : LnC (w.setCell ⟨b, 2, none⟩ u) b kd dp ls u := by
  obtain ⟨c0, c1, c2, c3, f2, f3⟩ := h
  refine ⟨?_, ?_, ?_, ?_, ?_, ?_⟩ <;> simp [go_sem, c0, c1, c2, c3, f2, f3]
theorem LnC.lost {w : World} {b : Nat} {kd dp ls : Int} {v : Value} (h : LnC w b kd dp ls v) (n : Int) : LnC (w.setCell ⟨b, 3, none⟩ (.int .i64 n)) b kd dp n v := by
  obtain ⟨c0, c1, c2, c3, f2, f3⟩ := h
  refine ⟨?_, ?_, ?_, ?_, ?_, ?_⟩ <;> simp [go_sem, c0, c1, c2, c3, f2, f3]
theorem LnC.lt {w : World} {b : Nat} {kd dp ls : Int} {v : Value} (h : LnC w b kd dp ls v) : b < w.heap.size := wlt h.1
theorem LnC.below {w w' : World} {b B : Nat} {kd dp ls : Int} {v : Value} (h : LnC w b kd dp ls v) (hb : Below B w w') (hB : b < B) : LnC w' b kd dp ls v := h.block (hb.block b hB)
theorem Ln.below {w w' : World} {base b : Nat} {kd dp ls : Int} {xs : List Int} {v : Value} (h : Ln w base b kd dp xs ls v) (hb : Below w.heap.size w w') : Ln w' base b kd dp xs ls v :=
  ⟨h.c.below hb (Nat.lt_of_lt_of_le h.lt h.le), own_below h.row hb (Nat.le_refl _), h.lt, Nat.le_trans h.le hb.size⟩
theorem Ln.own {w : World} {base b : Nat} {kd dp ls : Int} {xs : List Int} {v : Value} (h : Ln w base b kd dp xs ls v) {B : Nat} (hB : B ≤ base) : ∀ k, v.ownBlock = some k → B ≤ k := fun k hk => Nat.le_trans hB (h.row.lt k hk).1
end Go.Proofs.YtajfgmlockjmhadDoor
namespace Go.Proofs.YtajfgmlockjmhadDoor
open Go.RowKit

theorem KTouch.ln {M : List Nat} {w w' : World} {b : Nat} {v v' : Value} (h : Touch w w' b v v') (hb : b ∈ M) (hv : ∀ g, v.ownBlock = some g → g ∈ M) : KTouch M w w' := ⟨h.os, h.tape, h.output, h.size, fun k hk hm => h.block k hk (fun e => hm (by rw [e]; exact hb)) (fun e => hm (hv k e.symm))⟩
/-- A line as it was where elsewhere was written. -/
theorem Ln.touch {w w' : World} {base b : Nat} {kd dp ls : Int} {xs : List Int} {v : Value} (h : Ln w base b kd dp xs ls v) {M : List Nat} (ht : KTouch M w w') (hb : b ∉ M) (hv : ∀ g, v.ownBlock = some g → g ∉ M) : Ln w' base b kd dp xs ls v := by
  have hlt : b < w.heap.size := Nat.lt_of_lt_of_le h.lt h.le
  have hbk := ht.block b hlt hb
  have hc := fun o => World.cell?_of_block (w := w) (w' := w') (a := ⟨b, o, none⟩) hbk
  have hf := fun o => World.frozen?_of_block (w := w) (w' := w') (a := ⟨b, o, none⟩) hbk
  refine ⟨?_, own_block h.row (fun k hk => ht.block k (h.row.lt k hk).2 (hv k hk)), h.lt, Nat.le_trans h.le ht.size⟩
  have hcc := h.c
  unfold LnC at *
  simp only [hc, hf]
  exact hcc
/-- Lines in a row, by pointers. -/
structure DLs (w : World) (b1 lr : Nat) (lv : Value) (bs : List Nat) (us : List Value) (ls : List LnD) : Prop where
  lv : (ls = [] ∧ lv = .slice none 0 0) ∨ ∃ cap, lv = .slice (some ⟨lr, 0, none⟩) ls.length cap ∧ ls.length ≤ cap
  ptr : ∀ (i : Nat) b, bs[i]? = some b → w.cell? ⟨lr, i, none⟩ = some (.pointer (some ⟨b, 0, none⟩))
  bl : bs.length = ls.length
  ul : us.length = ls.length
  line : ∀ (i : Nat) l b u, ls[i]? = some l → bs[i]? = some b → us[i]? = some u → Ln w b1 b l.w.2.2.1 l.w.2.2.2 l.xs l.ls u
  lt : lr < b1 ∧ ∀ b ∈ bs, b < b1
  le : b1 ≤ w.heap.size
  ap : ∀ b ∈ bs, b ≠ lr
  two : ∀ (i j : Nat) b b', i < j → bs[i]? = some b → bs[j]? = some b' → b ≠ b'
  rows : ∀ (i j : Nat) u u', i ≠ j → us[i]? = some u → us[j]? = some u' → ∀ g, u.ownBlock = some g → u'.ownBlock ≠ some g
/-- Their blocks. -/
def DF (lr : Nat) (bs : List Nat) (us : List Value) : List Nat := lr :: (bs ++ us.filterMap Value.ownBlock)
theorem DLs.row {w : World} {b1 lr : Nat} {lv : Value} {bs : List Nat} {us : List Value} {ls : List LnD} (h : DLs w b1 lr lv bs us ls) : ∀ u ∈ us, ∀ g, u.ownBlock = some g → b1 ≤ g ∧ g < w.heap.size := fun u hu g hg => by
  obtain ⟨i, hi⟩ := List.mem_iff_getElem?.1 hu
  have hlt := (List.getElem?_eq_some_iff.1 hi).1
  have hl : ls[i]? = some (ls[i]'(by rw [← h.ul]; exact hlt)) := List.getElem?_eq_getElem _
  have hb : bs[i]? = some (bs[i]'(by rw [h.bl, ← h.ul]; exact hlt)) := List.getElem?_eq_getElem _
  exact (h.line i _ _ u hl hb hi).row.lt g hg
theorem DLs.flt {w : World} {b1 lr : Nat} {lv : Value} {bs : List Nat} {us : List Value} {ls : List LnD} (h : DLs w b1 lr lv bs us ls) : ∀ g ∈ DF lr bs us, g < w.heap.size := fun g hg => by
  have hle := h.le
  unfold DF at hg
  simp only [List.mem_cons, List.mem_append, List.mem_filterMap] at hg
  rcases hg with h1 | h1 | ⟨u, h1, h2⟩
  · have := h.lt.1; omega
  · have := h.lt.2 g h1; omega
  · exact (h.row u h1 g h2).2
/-- What is written elsewhere leaves them as they are. -/
theorem DLs.frame {w w' : World} {b1 lr : Nat} {lv : Value} {bs : List Nat} {us : List Value} {ls : List LnD} (h : DLs w b1 lr lv bs us ls) {M : List Nat} (ht : KTouch M w w') (hM : ∀ m ∈ M, m ∉ DF lr bs us) : DLs w' b1 lr lv bs us ls := by
  have m4 : ∀ b ∈ bs, b ∈ DF lr bs us := fun b hb => by simp [DF, hb]
  have m5 : ∀ u ∈ us, ∀ g, u.ownBlock = some g → g ∈ DF lr bs us := fun u hu g hg => by
    unfold DF
    simp only [List.mem_cons, List.mem_append, List.mem_filterMap]
    exact Or.inr (Or.inr ⟨u, hu, hg⟩)
  have m3 : lr ∈ DF lr bs us := by simp [DF]
  have hlr := fun o => World.cell?_of_block (w := w) (w' := w') (a := ⟨lr, o, none⟩) (ht.block lr (h.flt lr m3) (fun hm => hM lr hm m3))
  exact ⟨h.lv, fun i b hi => (hlr i).trans (h.ptr i b hi), h.bl, h.ul, fun i l b u h1 h2 h3 => (h.line i l b u h1 h2 h3).touch ht (fun hm => hM b hm (m4 b (List.mem_of_getElem? h2))) (fun g hg hm => hM g hm (m5 u (List.mem_of_getElem? h3) g hg)), h.lt, Nat.le_trans h.le ht.size, h.ap, h.two, h.rows⟩
/-- Where a line lies. -/
theorem DLs.at {w : World} {b1 lr : Nat} {lv : Value} {bs : List Nat} {us : List Value} {ls : List LnD} (h : DLs w b1 lr lv bs us ls) {i : Nat} (hi : i < ls.length) : ∃ b u cap l, ls[i]? = some l ∧ bs[i]? = some b ∧ us[i]? = some u ∧ lv = .slice (some ⟨lr, 0, none⟩) ls.length cap ∧ ls.length ≤ cap ∧ w.cell? ⟨lr, i, none⟩ = some (.pointer (some ⟨b, 0, none⟩)) ∧ Ln w b1 b l.w.2.2.1 l.w.2.2.2 l.xs l.ls u := by
  have hb : bs[i]? = some (bs[i]'(by rw [h.bl]; exact hi)) := List.getElem?_eq_getElem _
  have hu : us[i]? = some (us[i]'(by rw [h.ul]; exact hi)) := List.getElem?_eq_getElem _
  have hl : ls[i]? = some ls[i] := List.getElem?_eq_getElem hi
  rcases h.lv with ⟨e, _⟩ | ⟨cap, h1, h2⟩
  · rw [e] at hi
    simp at hi
  · exact ⟨_, _, cap, _, hl, hb, hu, h1, h2, h.ptr i _ hb, h.line i _ _ _ hl hb hu⟩
/-- One line is another one. -/
theorem DLs.set {w w' : World} {b1 lr : Nat} {lv : Value} {bs : List Nat} {us : List Value} {ls : List LnD} (h : DLs w b1 lr lv bs us ls) {i b : Nat} {u u' : Value} {l' : LnD} (hb : bs[i]? = some b) (hu : us[i]? = some u) (ht : Touch w w' b u u') (hl : Ln w' b1 b l'.w.2.2.1 l'.w.2.2.2 l'.xs l'.ls u') :
    DLs w' b1 lr lv bs (us.set i u') (ls.set i l') ∧ KTouch (b :: (us.filterMap Value.ownBlock)) w w' ∧ ∀ g ∈ DF lr bs (us.set i u'), g ∈ DF lr bs us ∨ w.heap.size ≤ g := by
  have hbm := List.mem_of_getElem? hb
  have hum := List.mem_of_getElem? hu
  have hil : i < us.length := (List.getElem?_eq_some_iff.1 hu).1
  have hne : ls ≠ [] := fun e => by
    have := h.bl
    rw [e, List.length_nil] at this
    have := (List.getElem?_eq_some_iff.1 hb).1
    omega
  have hle := h.le
  have hblk : ∀ k, k < w.heap.size → k ≠ b → u.ownBlock ≠ some k → w'.heap[k]? = w.heap[k]? := fun k h1 h2 h3 => ht.block k h1 h2 (fun e => h3 e.symm)
  have hlow : ∀ k, k < b1 → u.ownBlock ≠ some k := fun k hk e => by have := (h.row u hum k e).1; omega
  have hlr := fun o => World.cell?_of_block (w := w) (w' := w') (a := ⟨lr, o, none⟩) (hblk lr (by have := h.lt.1; omega) (Ne.symm (h.ap b hbm)) (hlow lr h.lt.1))
  refine ⟨⟨?_, fun j b' hj => (hlr j).trans (h.ptr j b' hj), by simp only [List.length_set]; exact h.bl, by simp only [List.length_set]; exact h.ul, fun j l b' u2 h1 h2 h3 => ?_, h.lt, Nat.le_trans h.le ht.size, h.ap, h.two, fun j j' u2 u3 hjj h1 h2 g hg => ?_⟩, ?_, fun g hg => ?_⟩
  · rcases h.lv with ⟨e, _⟩ | ⟨cap, h1, h2⟩
    · exact absurd e hne
    · exact Or.inr ⟨cap, by simp only [List.length_set]; exact h1, by simp only [List.length_set]; exact h2⟩
  · by_cases hij : i = j
    · subst hij
      rw [List.getElem?_set_self (by rw [← h.bl]; exact (List.getElem?_eq_some_iff.1 hb).1)] at h1
      rw [List.getElem?_set_self hil] at h3
      rw [hb] at h2
      obtain rfl := Option.some.inj h1
      obtain rfl := Option.some.inj h2
      obtain rfl := Option.some.inj h3
      exact hl
    · rw [List.getElem?_set_ne hij] at h1 h3
      have hbb : b' ≠ b := by
        rcases Nat.lt_or_ge i j with hlt | hge
        · exact Ne.symm (h.two i j b b' hlt hb h2)
        · exact h.two j i b' b (by omega) h2 hb
      have hL := h.line j l b' u2 h1 h2 h3
      refine hL.touch (M := b :: (u.ownBlock.toList)) (KTouch.ln ht (by simp) (fun g hg => by simp [hg])) (fun hm => ?_) (fun g hg hm => ?_)
      · rcases List.mem_cons.1 hm with e | e
        · exact hbb e
        · have : u.ownBlock = some b' := by simpa using e
          exact hlow b' (h.lt.2 b' (List.mem_of_getElem? h2)) this
      · rcases List.mem_cons.1 hm with e | e
        · have := (h.row u2 (List.mem_of_getElem? h3) g hg).1
          have := h.lt.2 b hbm
          omega
        · have : u.ownBlock = some g := by simpa using e
          exact h.rows j i u2 u (Ne.symm hij) h3 hu g hg this
  · by_cases hi1 : i = j
    · subst hi1
      rw [List.getElem?_set_self hil] at h1
      obtain rfl := Option.some.inj h1
      rw [List.getElem?_set_ne hjj] at h2
      intro e
      rcases ht.new g hg with h4 | h4
      · exact h.rows i j' u u3 hjj hu h2 g h4 e
      · have := (h.row u3 (List.mem_of_getElem? h2) g e).2
        omega
    · rw [List.getElem?_set_ne hi1] at h1
      by_cases hi2 : i = j'
      · subst hi2
        rw [List.getElem?_set_self hil] at h2
        obtain rfl := Option.some.inj h2
        intro e
        rcases ht.new g e with h4 | h4
        · exact h.rows j i u2 u (Ne.symm hi1) h1 hu g hg h4
        · have := (h.row u2 (List.mem_of_getElem? h1) g hg).2
          omega
      · rw [List.getElem?_set_ne hi2] at h2
        exact h.rows j j' u2 u3 hjj h1 h2 g hg
  · exact KTouch.ln ht (by simp) (fun g hg => List.mem_cons_of_mem _ (List.mem_filterMap.2 ⟨u, hum, hg⟩))
  · unfold DF at hg ⊢
    simp only [List.mem_cons, List.mem_append, List.mem_filterMap] at hg ⊢
    rcases hg with h1 | h1 | ⟨v, h1, h2⟩
    · exact Or.inl (Or.inl h1)
    · exact Or.inl (Or.inr (Or.inl h1))
    · rcases List.mem_or_eq_of_mem_set h1 with h3 | h3
      · exact Or.inl (Or.inr (Or.inr ⟨v, h3, h2⟩))
      · subst h3
        rcases ht.new g h2 with h4 | h4
        · exact Or.inl (Or.inr (Or.inr ⟨u, hum, h4⟩))
        · exact Or.inr h4
end Go.Proofs.YtajfgmlockjmhadDoor
namespace Go.Proofs.YtajfgmlockjmhadDoor
open Go.RowKit

/-- Where it lies. -/
structure GW where
  cv : Value
  sv : Value
  F0 : List Nat
  rb : Nat
  rcap : Nat
  lv : Value
  lr : Nat
  b1 : Nat
  bs : List Nat
  us : List Value
/-- All its blocks. -/
def GW.F (kb : Nat) (a : GW) : List Nat := kb :: a.rb :: (a.F0 ++ DF a.lr a.bs a.us)
/-- The plan's code and spans, copied: they lie in the blocks F0. -/
def Src (w : World) (F0 : List Nat) (cv sv : Value) (p : PD) : Prop := ∀ w', w.heap.size ≤ w'.heap.size → (∀ b ∈ F0, w'.heap[b]? = w.heap[b]?) → Cds w' cv p.code ∧ Sps w' sv p.spans
theorem Src.here {w : World} {F0 : List Nat} {cv sv : Value} {p : PD} (h : Src w F0 cv sv p) : Cds w cv p.code ∧ Sps w sv p.spans := h w (Nat.le_refl _) (fun _ _ => rfl)
theorem Src.kept {w w' : World} {F0 : List Nat} {cv sv : Value} {p : PD} (h : Src w F0 cv sv p) (hs : w.heap.size ≤ w'.heap.size) (hb : ∀ b ∈ F0, w'.heap[b]? = w.heap[b]?) : Src w' F0 cv sv p := fun w2 h2 hb2 => h w2 (Nat.le_trans hs h2) (fun b hm => (hb2 b hm).trans (hb b hm))
structure GK (w : World) (base : Nat) (p : PD) (k : KD) (kb : Nat) (a : GW) : Prop where
  c0 : w.cell? ⟨kb, 0, none⟩ = some a.cv
  c1 : w.cell? ⟨kb, 1, none⟩ = some (.int .i64 p.ticks)
  c2 : w.cell? ⟨kb, 2, none⟩ = some a.sv
  c3 : w.cell? ⟨kb, 3, none⟩ = some (.slice (some ⟨a.rb, 0, none⟩) k.rooms.length a.rcap)
  c4 : w.cell? ⟨kb, 4, none⟩ = some a.lv
  c5 : w.cell? ⟨kb, 5, none⟩ = some (.int .i64 k.time)
  f5 : w.frozen? ⟨kb, 5, none⟩ = false
  f2 : w.frozen? ⟨kb, 2, none⟩ = false
  src : Src w a.F0 a.cv a.sv p
  rooms : ∀ (i : Nat) s, k.rooms[i]? = some s → StC w a.rb (i * 8) s
  rf : ∀ o, w.frozen? ⟨a.rb, o, none⟩ = false
  lines : DLs w a.b1 a.lr a.lv a.bs a.us k.lines
  ge : ∀ g ∈ a.F kb, base ≤ g
  lt : kb < w.heap.size ∧ a.rb < w.heap.size ∧ ∀ g ∈ a.F0, g < w.heap.size
  ap : kb ≠ a.rb ∧ kb ∉ DF a.lr a.bs a.us ∧ a.rb ∉ DF a.lr a.bs a.us
  ap0 : kb ∉ a.F0 ∧ a.rb ∉ a.F0 ∧ ∀ g ∈ a.F0, g ∉ DF a.lr a.bs a.us
theorem GK.flt {w : World} {base : Nat} {p : PD} {k : KD} {kb : Nat} {a : GW} (h : GK w base p k kb a) : ∀ g ∈ a.F kb, g < w.heap.size := fun g hg => by
  unfold GW.F at hg
  rcases List.mem_cons.1 hg with h1 | h1
  · rw [h1]; exact h.lt.1
  · rcases List.mem_cons.1 h1 with h2 | h2
    · rw [h2]; exact h.lt.2.1
    · rcases List.mem_append.1 h2 with h3 | h3
      · exact h.lt.2.2 g h3
      · exact h.lines.flt g h3
/-- What is written elsewhere leaves it as it is. -/
theorem GK.frame {w w' : World} {base : Nat} {p : PD} {k : KD} {kb : Nat} {a : GW} (h : GK w base p k kb a) {M : List Nat} (ht : KTouch M w w') (hM : ∀ m ∈ M, m ∉ a.F kb) : GK w' base p k kb a := by
  have m1 : kb ∈ a.F kb := by simp [GW.F]
  have m2 : a.rb ∈ a.F kb := by simp [GW.F]
  have m3 : ∀ g ∈ a.F0, g ∈ a.F kb := fun g hg => by simp [GW.F, hg]
  have m4 : ∀ g ∈ DF a.lr a.bs a.us, g ∈ a.F kb := fun g hg => by simp [GW.F, hg]
  have b1 := ht.block kb h.lt.1 (fun hm => hM _ hm m1)
  have b2 := ht.block a.rb h.lt.2.1 (fun hm => hM _ hm m2)
  have hc := fun o => World.cell?_of_block (w := w) (w' := w') (a := ⟨kb, o, none⟩) b1
  have hf := fun o => World.frozen?_of_block (w := w) (w' := w') (a := ⟨kb, o, none⟩) b1
  have hrf := fun o => World.frozen?_of_block (w := w) (w' := w') (a := ⟨a.rb, o, none⟩) b2
  have hs := ht.size
  exact ⟨(hc 0).trans h.c0, (hc 1).trans h.c1, (hc 2).trans h.c2, (hc 3).trans h.c3, (hc 4).trans h.c4, (hc 5).trans h.c5, (hf 5).trans h.f5, (hf 2).trans h.f2, h.src.kept hs (fun b hb => ht.block b (h.lt.2.2 b hb) (fun hm => hM b hm (m3 b hb))), fun i s hs => (h.rooms i s hs).block b2, fun o => (hrf o).trans (h.rf o), h.lines.frame ht (fun m hm hd => hM m hm (m4 m hd)), h.ge, ⟨by have := h.lt.1; omega, by have := h.lt.2.1; omega, fun g hg => by have := h.lt.2.2 g hg; omega⟩, h.ap, h.ap0⟩
theorem GK.all {w w' : World} {base : Nat} {p : PD} {k : KD} {kb : Nat} {a : GW} (h : GK w base p k kb a) (hb : Below w.heap.size w w') : GK w' base p k kb a := h.frame (M := []) (KTouch.of hb) (by simp)
theorem GK.lower {w : World} {base base' : Nat} {p : PD} {k : KD} {kb : Nat} {a : GW} (h : GK w base p k kb a) (hb : base' ≤ base) : GK w base' p k kb a :=
  ⟨h.c0, h.c1, h.c2, h.c3, h.c4, h.c5, h.f5, h.f2, h.src, h.rooms, h.rf, h.lines, fun g hg => Nat.le_trans hb (h.ge g hg), h.lt, h.ap, h.ap0⟩
/-- The time is written. -/
theorem GK.time {w : World} {base : Nat} {p : PD} {k : KD} {kb : Nat} {a : GW} (h : GK w base p k kb a) (t : Int) : GK (w.setCell ⟨kb, 5, none⟩ (.int .i64 t)) base p ⟨k.rooms, k.lines, t⟩ kb a := by
  have ht : KTouch [kb] w (w.setCell ⟨kb, 5, none⟩ (.int .i64 t)) := KTouch.set w (by simp) 5 _
  have b2 : (w.setCell ⟨kb, 5, none⟩ (.int .i64 t)).heap[a.rb]? = w.heap[a.rb]? := Below.heap_setCell _ _ _ _ (Ne.symm h.ap.1)
  refine ⟨by simpa [go_sem] using h.c0, by simpa [go_sem] using h.c1, by simpa [go_sem] using h.c2, by simpa [go_sem] using h.c3, by simpa [go_sem] using h.c4, by simp [go_sem, h.c5], by simpa using h.f5, by simpa using h.f2, h.src.kept (by simp) (fun b hb => Below.heap_setCell _ _ _ _ (fun e => h.ap0.1 (by rw [← show b = kb from e]; exact hb))), fun i s hs => (h.rooms i s hs).block b2, fun o => by simpa using h.rf o, h.lines.frame ht (fun m hm => ?_), h.ge, by simpa using h.lt, h.ap, h.ap0⟩
  rw [List.mem_singleton] at hm
  subst hm
  exact h.ap.2.1
/-- A room is another one: what is written lies within its eight cells. -/
theorem GK.room {w w' : World} {base : Nat} {p : PD} {k : KD} {kb : Nat} {a : GW} (h : GK w base p k kb a) {r : Nat} {s s' : St} (hr : k.rooms[r]? = some s) (ht : KTouch [a.rb] w w') (hat : StC w' a.rb (r * 8) s') (hoff : ∀ i, i < r * 8 ∨ r * 8 + 8 ≤ i → w'.cell? ⟨a.rb, i, none⟩ = w.cell? ⟨a.rb, i, none⟩) (hfz : ∀ i, w'.frozen? ⟨a.rb, i, none⟩ = w.frozen? ⟨a.rb, i, none⟩) : GK w' base p ⟨k.rooms.set r s', k.lines, k.time⟩ kb a := by
  have hlen := (List.getElem?_eq_some_iff.1 hr).1
  have b1 := ht.block kb h.lt.1 (by simpa using h.ap.1)
  have hc := fun o => World.cell?_of_block (w := w) (w' := w') (a := ⟨kb, o, none⟩) b1
  have hf := fun o => World.frozen?_of_block (w := w) (w' := w') (a := ⟨kb, o, none⟩) b1
  have hs := ht.size
  refine ⟨(hc 0).trans h.c0, (hc 1).trans h.c1, (hc 2).trans h.c2, by simp only [List.length_set]; exact (hc 3).trans h.c3, (hc 4).trans h.c4, (hc 5).trans h.c5, (hf 5).trans h.f5, (hf 2).trans h.f2, h.src.kept hs (fun b hb => ht.block b (h.lt.2.2 b hb) (fun hm => ?_)), fun j s2 hs => ?_, fun o => (hfz o).trans (h.rf o), h.lines.frame ht (fun m hm => ?_), h.ge, ⟨by have := h.lt.1; omega, by have := h.lt.2.1; omega, fun g hg => by have := h.lt.2.2 g hg; omega⟩, h.ap, h.ap0⟩
  · rw [List.mem_singleton] at hm
    subst hm
    exact h.ap0.2.1 hb
  · simp only at hs
    by_cases hij : r = j
    · subst hij
      rw [List.getElem?_set_self hlen] at hs
      obtain rfl := Option.some.inj hs
      exact hat
    · rw [List.getElem?_set_ne hij] at hs
      obtain ⟨q0, q1, q2, q3, q4, q5, q6, q7⟩ := h.rooms j s2 hs
      exact ⟨(hoff _ (by omega)).trans q0, (hoff _ (by omega)).trans q1, (hoff _ (by omega)).trans q2, (hoff _ (by omega)).trans q3, (hoff _ (by omega)).trans q4, (hoff _ (by omega)).trans q5, (hoff _ (by omega)).trans q6, (hoff _ (by omega)).trans q7⟩
  · rw [List.mem_singleton] at hm
    subst hm
    exact h.ap.2.2
theorem GK.set {w : World} {base : Nat} {p : PD} {k : KD} {kb : Nat} {a : GW} (h : GK w base p k kb a) {r : Nat} {s : St} (hr : k.rooms[r]? = some s) (s' : St) : GK (setSt w a.rb (r * 8) s') base p ⟨k.rooms.set r s', k.lines, k.time⟩ kb a :=
  h.room hr (setSt_touch w (by simp) _ _) (setSt_at (h.rooms r s hr)) (fun i hi => setSt_off hi) (fun i => setSt_frozen _ _ _ _ _)
theorem GK.poke {w : World} {base : Nat} {p : PD} {k : KD} {kb : Nat} {a : GW} (h : GK w base p k kb a) {r c : Nat} {s : St} (hr : k.rooms[r]? = some s) (hc : c ≤ 5) (n : Int) : GK (w.setCell ⟨a.rb, r * 8 + 1 + c, none⟩ (.int .i64 n)) base p ⟨k.rooms.set r (pokeS s c n), k.lines, k.time⟩ kb a :=
  h.room hr (KTouch.set w (by simp) _ _) ((h.rooms r s hr).poke hc n) (fun i hi => setCell_far (by omega)) (fun i => by simp)
/-- A line is another one. -/
theorem GK.line {w w' : World} {base : Nat} {p : PD} {k : KD} {kb : Nat} {a : GW} (h : GK w base p k kb a) (hbw : base ≤ w.heap.size) {i b : Nat} {u u' : Value} {l' : LnD} (hb : a.bs[i]? = some b) (hu : a.us[i]? = some u) (ht : Touch w w' b u u') (hl : Ln w' a.b1 b l'.w.2.2.1 l'.w.2.2.2 l'.xs l'.ls u') :
    GK w' base p ⟨k.rooms, k.lines.set i l', k.time⟩ kb { a with us := a.us.set i u' } ∧ KTouch (a.F kb) w w' ∧ ∀ g ∈ GW.F kb { a with us := a.us.set i u' }, g ∈ a.F kb ∨ w.heap.size ≤ g := by
  obtain ⟨h1, h2, h3⟩ := h.lines.set hb hu ht hl
  have hsub : ∀ m ∈ b :: (a.us.filterMap Value.ownBlock), m ∈ DF a.lr a.bs a.us := fun m hm => by
    unfold DF
    simp only [List.mem_cons, List.mem_append] at hm ⊢
    rcases hm with e | e
    · subst e
      exact Or.inr (Or.inl (List.mem_of_getElem? hb))
    · exact Or.inr (Or.inr e)
  have hk : kb ∉ b :: (a.us.filterMap Value.ownBlock) := fun hm => h.ap.2.1 (hsub _ hm)
  have hr : a.rb ∉ b :: (a.us.filterMap Value.ownBlock) := fun hm => h.ap.2.2 (hsub _ hm)
  have b1 := h2.block kb h.lt.1 hk
  have b2 := h2.block a.rb h.lt.2.1 hr
  have hc := fun o => World.cell?_of_block (w := w) (w' := w') (a := ⟨kb, o, none⟩) b1
  have hf := fun o => World.frozen?_of_block (w := w) (w' := w') (a := ⟨kb, o, none⟩) b1
  have hrf := fun o => World.frozen?_of_block (w := w) (w' := w') (a := ⟨a.rb, o, none⟩) b2
  have hs := h2.size
  have hnew : ∀ g ∈ GW.F kb { a with us := a.us.set i u' }, g ∈ a.F kb ∨ w.heap.size ≤ g := fun g hg => by
    unfold GW.F at hg ⊢
    simp only [List.mem_cons, List.mem_append] at hg ⊢
    rcases hg with e | e | e | e
    · exact Or.inl (Or.inl e)
    · exact Or.inl (Or.inr (Or.inl e))
    · exact Or.inl (Or.inr (Or.inr (Or.inl e)))
    · rcases h3 g e with e | e
      · exact Or.inl (Or.inr (Or.inr (Or.inr e)))
      · exact Or.inr e
  refine ⟨⟨(hc 0).trans h.c0, (hc 1).trans h.c1, (hc 2).trans h.c2, (hc 3).trans h.c3, (hc 4).trans h.c4, (hc 5).trans h.c5, (hf 5).trans h.f5, (hf 2).trans h.f2, h.src.kept hs (fun g hg => h2.block g (h.lt.2.2 g hg) (fun hm => h.ap0.2.2 g hg (hsub g hm))), fun j s hs => (h.rooms j s hs).block b2, fun o => (hrf o).trans (h.rf o), h1, fun g hg => ?_, ⟨by have := h.lt.1; omega, by have := h.lt.2.1; show a.rb < _; omega, fun g hg => by have := h.lt.2.2 g hg; omega⟩, ⟨h.ap.1, fun hm => ?_, fun hm => ?_⟩, ⟨h.ap0.1, h.ap0.2.1, fun g hg hm => ?_⟩⟩, h2.mono (fun m hm => by simp [GW.F, hsub m hm]), hnew⟩
  · rcases hnew g hg with e | e
    · exact h.ge g e
    · omega
  · rcases h3 kb hm with e | e
    · exact h.ap.2.1 e
    · have := h.lt.1
      omega
  · rcases h3 a.rb hm with e | e
    · exact h.ap.2.2 e
    · have := h.lt.2.1
      omega
  · rcases h3 g hm with e | e
    · exact h.ap0.2.2 g hg e
    · have := h.lt.2.2 g hg
      omega
end Go.Proofs.YtajfgmlockjmhadDoor
namespace Go.Proofs.YtajfgmlockjmhadDoor
open Go.RowKit

/-- The kernel's block. -/
def GB (W : World) (b : Nat) (cv : Value) (t : Int) (sv rv lv : Value) : Prop := W.heap[b]? = some (.cells #[cv, .int .i64 t, sv, rv, lv, .int .i64 0] 81 (0, 0))
theorem GB.cs {W : World} {b : Nat} {cv sv rv lv : Value} {t : Int} (h : GB W b cv t sv rv lv) : W.cell? ⟨b, 0, none⟩ = some cv ∧ W.cell? ⟨b, 1, none⟩ = some (.int .i64 t) ∧ W.cell? ⟨b, 2, none⟩ = some sv ∧ W.cell? ⟨b, 3, none⟩ = some rv ∧ W.cell? ⟨b, 4, none⟩ = some lv ∧ W.cell? ⟨b, 5, none⟩ = some (.int .i64 0) := by
  have e : W.heap[b]? = _ := h
  simp [World.cell?, e]
theorem GB.free {W : World} {b : Nat} {cv sv rv lv : Value} {t : Int} (h : GB W b cv t sv rv lv) (o : Nat) : W.frozen? ⟨b, o, none⟩ = false := by
  have e : W.heap[b]? = _ := h
  simp [World.frozen?, e]
theorem GB.code {W : World} {b : Nat} {cv sv rv lv : Value} {t : Int} (h : GB W b cv t sv rv lv) (v : Value) : GB (W.setCell ⟨b, 0, none⟩ v) b v t sv rv lv := by
  have e : W.heap[b]? = _ := h
  unfold GB
  simp [World.setCell, Array.getElem?_modify, e]
theorem GB.rooms {W : World} {b : Nat} {cv sv rv lv : Value} {t : Int} (h : GB W b cv t sv rv lv) (v : Value) : GB (W.setCell ⟨b, 3, none⟩ v) b cv t sv v lv := by
  have e : W.heap[b]? = _ := h
  unfold GB
  simp [World.setCell, Array.getElem?_modify, e]
theorem GB.lines {W : World} {b : Nat} {cv sv rv lv : Value} {t : Int} (h : GB W b cv t sv rv lv) (v : Value) : GB (W.setCell ⟨b, 4, none⟩ v) b cv t sv rv v := by
  have e : W.heap[b]? = _ := h
  unfold GB
  simp [World.setCell, Array.getElem?_modify, e]
/-- A row has grown: what was there ahead, but one block, is as it was. -/
theorem KTouch.grow {M : List Nat} {W0 W w2 wa : World} {row : Option Nat} (h : KTouch M W0 W) (hb : Below W.heap.size W w2) (hg : w2.grownBy wa row) (hr : ∀ k, row = some k → W0.heap.size ≤ k) : KTouch M W0 wa :=
  ⟨hg.os.trans (hb.os.trans h.os), hg.tape.trans (hb.tape.trans h.tape), hg.output.trans (hb.output.trans h.output), Nat.le_trans h.size (Nat.le_trans hb.size hg.size), fun k hk hm => by
    have h1 := h.size
    have h2 := hb.size
    exact (hg.block k (by omega) (fun e => by have := hr k e.symm; omega)).trans ((hb.block k (by omega)).trans (h.block k hk hm))⟩
/-- Rooms are being made: code and states so far. -/
structure N1 (W0 W : World) (kb : Nat) (p : PD) (sv cv rv : Value) (us : List Value) (m : Nat) : Prop where
  tk : KTouch [kb] W0 W
  kl : kb < W0.heap.size
  blk : GB W kb cv p.ticks sv rv (.slice none 0 0)
  code : W.ownsRow W0.heap.size 26 1 cv us.length us
  rows : ∀ (i : Nat) u c, us[i]? = some u → p.code[i]? = some c → W.ownsRow W0.heap.size 25 3 u c.length (spCells c)
  rooms : W.ownsRow W0.heap.size 48 8 rv m (stCells (List.replicate m stNew))
  len : us.length ≤ p.code.length
theorem N1.first {W0 : World} {kb : Nat} {p : PD} {sv : Value} (hk : kb < W0.heap.size) (h : GB W0 kb (.slice none 0 0) p.ticks sv (.slice none 0 0) (.slice none 0 0)) : N1 W0 W0 kb p sv (.slice none 0 0) (.slice none 0 0) [] 0 :=
  ⟨KTouch.refl _ _, hk, h, World.ownsRow_nil _ _ _ _, fun i u c hi => (by simp at hi), World.ownsRow_nil _ _ _ _, Nat.zero_le _⟩
/-- One code more. -/
theorem N1.more {W0 W w1 wa : World} {kb m : Nat} {p : PD} {sv cv cv' rv u : Value} {us : List Value} {c : List O3} (h : N1 W0 W kb p sv cv rv us m) (hc : p.code[us.length]? = some c) (b1 : Below W.heap.size W w1) (hu : w1.ownsRow W.heap.size 25 3 u c.length (spCells c))
    (hg : (w1.alloc (.cells #[u] 26)).grownBy wa cv.ownBlock) (hown : wa.ownsRow W0.heap.size 26 1 cv' (us.length + 1) (us ++ [u])) : N1 W0 (wa.setCell ⟨kb, 0, none⟩ cv') kb p sv cv' rv (us ++ [u]) m := by
  have b2 : Below W.heap.size W (w1.alloc (.cells #[u] 26)) := b1.alloc b1.size _
  have hs := h.tk.size
  have hcr : ∀ k, cv.ownBlock = some k → W0.heap.size ≤ k := fun k hk => (h.code.lt k hk).1
  have code2 := own_below h.code b2 (Nat.le_refl _)
  have hset : ∀ {e : TypeId} {size : Nat} {v : Value} {n : Nat} {xs : List Value}, wa.ownsRow W0.heap.size e size v n xs → (wa.setCell ⟨kb, 0, none⟩ cv').ownsRow W0.heap.size e size v n xs := fun hx => ownsRow_setCell_below hx (a := ⟨kb, 0, none⟩) h.kl cv'
  refine ⟨(h.tk.grow b2 hg hcr).trans (KTouch.set _ (by simp) 0 _), h.kl, GB.code (cv := cv) ?_ cv', ?_, fun i x d hx hd => ?_, ?_, ?_⟩
  · have hlt : kb < W.heap.size := Nat.lt_of_lt_of_le h.kl hs
    have h1 := b2.size
    exact (hg.block kb (by omega) (fun e => by have := hcr kb e.symm; have := h.kl; omega)).trans ((b2.block kb hlt).trans h.blk)
  · rw [List.length_append]
    exact hset hown
  · by_cases hi : i < us.length
    · rw [List.getElem?_append_left hi] at hx
      have r2 := own_below (h.rows i x d hx hd) b2 (Nat.le_refl _)
      exact hset (r2.kept hg (own_apart (by decide) r2 code2))
    · have hlt := (List.getElem?_eq_some_iff.1 hx).1
      rw [List.length_append, List.length_singleton] at hlt
      obtain rfl : i = us.length := by omega
      rw [List.getElem?_append_right (Nat.le_refl _), Nat.sub_self] at hx
      simp only [List.getElem?_cons_zero, Option.some.injEq] at hx
      subst hx
      rw [hc] at hd
      obtain rfl := Option.some.inj hd
      have r2 := own_base (own_below hu ((Below.refl _ w1).alloc (Nat.le_refl _) (.cells #[u] 26)) (Nat.le_refl _)) hs
      exact hset (r2.kept hg (own_apart (by decide) r2 code2))
  · have r2 := own_below h.rooms b2 (Nat.le_refl _)
    exact hset (r2.kept hg (own_apart (by decide) r2 code2))
  · rw [List.length_append, List.length_singleton]
    exact (List.getElem?_eq_some_iff.1 hc).1
/-- One state more. -/
theorem N1.room {W0 W w1 wa : World} {kb m : Nat} {p : PD} {sv cv rv rv' : Value} {us : List Value} (h : N1 W0 W kb p sv cv rv us m) (b1 : Below W.heap.size W w1)
    (hg : (w1.alloc (.cells #[.int .i64 0, .int .i64 0, .int .i64 0, .int .i64 0, .int .i64 0, .int .i64 0, .int .i64 0, .bool false] 48)).grownBy wa rv.ownBlock) (hown : wa.ownsRow W0.heap.size 48 8 rv' (m + 1) (stCells (List.replicate m stNew) ++ [.int .i64 0, .int .i64 0, .int .i64 0, .int .i64 0, .int .i64 0, .int .i64 0, .int .i64 0, .bool false])) : N1 W0 (wa.setCell ⟨kb, 3, none⟩ rv') kb p sv cv rv' us (m + 1) := by
  have b2 : Below W.heap.size W (w1.alloc (.cells #[.int .i64 0, .int .i64 0, .int .i64 0, .int .i64 0, .int .i64 0, .int .i64 0, .int .i64 0, .bool false] 48)) := b1.alloc b1.size _
  have hs := h.tk.size
  have hcr : ∀ k, rv.ownBlock = some k → W0.heap.size ≤ k := fun k hk => (h.rooms.lt k hk).1
  have room2 := own_below h.rooms b2 (Nat.le_refl _)
  have hset : ∀ {e : TypeId} {size : Nat} {v : Value} {n : Nat} {xs : List Value}, wa.ownsRow W0.heap.size e size v n xs → (wa.setCell ⟨kb, 3, none⟩ rv').ownsRow W0.heap.size e size v n xs := fun hx => ownsRow_setCell_below hx (a := ⟨kb, 3, none⟩) h.kl rv'
  refine ⟨(h.tk.grow b2 hg hcr).trans (KTouch.set _ (by simp) 3 _), h.kl, GB.rooms (rv := rv) ?_ rv', ?_, fun i x d hx hd => ?_, ?_, h.len⟩
  · have hlt : kb < W.heap.size := Nat.lt_of_lt_of_le h.kl hs
    have h1 := b2.size
    exact (hg.block kb (by omega) (fun e => by have := hcr kb e.symm; have := h.kl; omega)).trans ((b2.block kb hlt).trans h.blk)
  · have r2 := own_below h.code b2 (Nat.le_refl _)
    exact hset (r2.kept hg (own_apart (by decide) r2 room2))
  · have r2 := own_below (h.rows i x d hx hd) b2 (Nat.le_refl _)
    exact hset (r2.kept hg (own_apart (by decide) r2 room2))
  · rw [List.replicate_succ', stCells_snoc]
    exact hset hown
/-- A pointer to a line. -/
def glP (b : Nat) : Value := .pointer (some ⟨b, 0, none⟩)
theorem infoGL : (Tryd.prog.info? 84).map (fun i => (i.zero, i.size, i.bytes)) = some (some (.pointer none), 1, 8) := by kernel_rfl
/-- Lines are being made. -/
structure N2 (W1 W : World) (kb : Nat) (p : PD) (cv sv rv lv : Value) (bs : List Nat) : Prop where
  tk : KTouch [kb] W1 W
  kl : kb < W1.heap.size
  blk : GB W kb cv p.ticks sv rv lv
  row : W.ownsRow W1.heap.size 84 1 lv bs.length (bs.map glP)
  line : ∀ (i : Nat) b x, bs[i]? = some b → p.wires[i]? = some x → LnC W b x.2.2.1 x.2.2.2 0 (.slice none 0 0)
  ge : ∀ b ∈ bs, W1.heap.size ≤ b ∧ b < W.heap.size
  ne : ∀ b ∈ bs, lv.ownBlock ≠ some b
  two : ∀ (i j : Nat) b b', i < j → bs[i]? = some b → bs[j]? = some b' → b < b'
  len : bs.length ≤ p.wires.length
theorem N2.first {W1 : World} {kb : Nat} {p : PD} {cv sv rv : Value} (hk : kb < W1.heap.size) (h : GB W1 kb cv p.ticks sv rv (.slice none 0 0)) : N2 W1 W1 kb p cv sv rv (.slice none 0 0) [] :=
  ⟨KTouch.refl _ _, hk, h, World.ownsRow_nil _ _ _ _, fun i b x hi => (by simp at hi), fun b hb => (by cases hb), fun b hb => (by cases hb), fun i j b b' _ hi => (by simp at hi), Nat.zero_le _⟩
/-- One line more. -/
theorem N2.more {W1 W w1 wa : World} {kb b : Nat} {p : PD} {cv sv rv lv lv' : Value} {bs : List Nat} {x : W4} (h : N2 W1 W kb p cv sv rv lv bs) (hx : p.wires[bs.length]? = some x) (b1 : Below W.heap.size W w1) (hb : W.heap.size ≤ b ∧ b < w1.heap.size) (hl : LnC w1 b x.2.2.1 x.2.2.2 0 (.slice none 0 0))
    (hg : (w1.alloc (.cells #[glP b] 84)).grownBy wa lv.ownBlock) (hown : wa.ownsRow W1.heap.size 84 1 lv' (bs.length + 1) (bs.map glP ++ [glP b])) (hnew : ∀ k, lv'.ownBlock = some k → lv.ownBlock = some k ∨ w1.heap.size + 1 ≤ k) : N2 W1 (wa.setCell ⟨kb, 4, none⟩ lv') kb p cv sv rv lv' (bs ++ [b]) := by
  have b2 : Below W.heap.size W (w1.alloc (.cells #[glP b] 84)) := b1.alloc b1.size _
  have hs := h.tk.size
  have hcr : ∀ k, lv.ownBlock = some k → W1.heap.size ≤ k ∧ k < W.heap.size := fun k hk => h.row.lt k hk
  have hsz : (w1.alloc (.cells #[glP b] 84)).heap.size = w1.heap.size + 1 := by simp
  have hwa := hg.size
  rw [hsz] at hwa
  have h1s := b1.size
  have hset : ∀ k, k ≠ kb → (wa.setCell ⟨kb, 4, none⟩ lv').heap[k]? = wa.heap[k]? := fun k hk => Below.heap_setCell _ _ _ _ hk
  have hsz2 : (wa.setCell ⟨kb, 4, none⟩ lv').heap.size = wa.heap.size := by simp
  have hkb := h.kl
  have hold : ∀ k, k < W.heap.size → k ≠ kb → lv.ownBlock ≠ some k → (wa.setCell ⟨kb, 4, none⟩ lv').heap[k]? = W.heap[k]? := fun k h2 h3 h4 => (hset k h3).trans ((hg.block k (by rw [hsz]; omega) (fun e => h4 e.symm)).trans (b2.block k h2))
  refine ⟨(h.tk.grow b2 hg (fun k hk => (hcr k hk).1)).trans (KTouch.set _ (by simp) 4 _), h.kl, GB.lines (lv := lv) ?_ lv', ?_, fun i c y hi hy => ?_, fun c hc => ?_, fun c hc => ?_, fun i j c c' hij hi hj => ?_, ?_⟩
  · have hlt : kb < W.heap.size := Nat.lt_of_lt_of_le h.kl hs
    exact (hg.block kb (by rw [hsz]; omega) (fun e => by have := (hcr kb e.symm).1; omega)).trans ((b2.block kb hlt).trans h.blk)
  · rw [List.map_append, List.length_append]
    exact ownsRow_setCell_below hown (a := ⟨kb, 4, none⟩) h.kl lv'
  · by_cases hil : i < bs.length
    · rw [List.getElem?_append_left hil] at hi
      have hm := List.mem_of_getElem? hi
      have hge := h.ge c hm
      exact (h.line i c y hi hy).block (hold c hge.2 (by omega) (h.ne c hm))
    · have hlt := (List.getElem?_eq_some_iff.1 hi).1
      rw [List.length_append, List.length_singleton] at hlt
      obtain rfl : i = bs.length := by omega
      rw [List.getElem?_append_right (Nat.le_refl _), Nat.sub_self] at hi
      simp only [List.getElem?_cons_zero, Option.some.injEq] at hi
      subst hi
      rw [hx] at hy
      obtain rfl := Option.some.inj hy
      refine hl.block ((hset b (by omega)).trans ((hg.block b (by rw [hsz]; omega) (fun e => by have := (hcr b e.symm).2; omega)).trans ?_))
      exact Below.heap_alloc _ _ _ hb.2
  · rcases List.mem_append.1 hc with hc | hc
    · have := h.ge c hc
      rw [hsz2]
      omega
    · rw [List.mem_singleton] at hc
      subst hc
      rw [hsz2]
      omega
  · intro e
    rcases List.mem_append.1 hc with hc | hc
    · have hge := h.ge c hc
      rcases hnew c e with h2 | h2
      · exact h.ne c hc h2
      · omega
    · rw [List.mem_singleton] at hc
      subst hc
      rcases hnew c e with h2 | h2
      · have := (hcr c h2).2
        omega
      · omega
  · by_cases hjl : j < bs.length
    · rw [List.getElem?_append_left hjl] at hj
      rw [List.getElem?_append_left (by omega)] at hi
      exact h.two i j c c' hij hi hj
    · have hlt := (List.getElem?_eq_some_iff.1 hj).1
      rw [List.length_append, List.length_singleton] at hlt
      obtain rfl : j = bs.length := by omega
      rw [List.getElem?_append_right (Nat.le_refl _), Nat.sub_self] at hj
      simp only [List.getElem?_cons_zero, Option.some.injEq] at hj
      subst hj
      rw [List.getElem?_append_left (by omega)] at hi
      have := h.ge c (List.mem_of_getElem? hi)
      omega
  · rw [List.length_append, List.length_singleton]
    exact (List.getElem?_eq_some_iff.1 hx).1
/-- Code in rows of its own can be read. -/
theorem gcds_own {w : World} {base : Nat} {cv : Value} {us : List Value} {cs : List (List O3)} (h : w.ownsRow base 26 1 cv us.length us) (hl : us.length = cs.length) (hr : ∀ (i : Nat) u c, us[i]? = some u → cs[i]? = some c → Ops w u c) : Cds w cv cs := by
  have hlt := h.lt
  have hcs := @World.ownsRow.cells _ _ _ _ _ _ _ h
  rcases h.2 with ⟨rfl, h0⟩ | ⟨g, cap, cur, rfl, _, _, hcap, _⟩
  · exact Or.inl ⟨List.eq_nil_of_length_eq_zero (by omega), _, _, rfl⟩
  · refine Or.inr ⟨g, 0, cap, by rw [hl], by omega, (hlt g rfl).2, fun i c hi => ?_⟩
    have hil : i < us.length := by rw [hl]; exact (List.getElem?_eq_some_iff.1 hi).1
    have hu : us[i]? = some us[i] := List.getElem?_eq_getElem hil
    have := hcs rfl i _ hu
    rw [Addr.add_lit] at this
    exact ⟨_, this, hr i _ c hu hi⟩
theorem ofOwn {v : Value} {g : Nat} (h : g ∈ v.ownBlock.toList) : v.ownBlock = some g := by simpa using h
/-- All is there: a kernel. -/
theorem N2.done {w W0 W1 W : World} {kb : Nat} {p : PD} {cv sv rv lv : Value} {us : List Value} {bs : List Nat} (hw0 : w.heap.size + 1 ≤ kb) (hsp : W0.ownsRow (w.heap.size + 1) 42 3 sv p.spans.length (spCells p.spans)) (hspk : ∀ g, sv.ownBlock = some g → g ≠ kb)
    (h1 : N1 W0 W1 kb p sv cv rv us us.length) (h2 : N2 W1 W kb p cv sv rv lv bs) (hp : plchk p = 0) (hul : us.length = p.code.length) (hbl : bs.length = p.wires.length) : ∃ a : GW, GK W w.heap.size p (newK p) kb a := by
  obtain ⟨c0, c1, c2, c3, c4, c5⟩ := h2.blk.cs
  have hne0 := (plchk_zero hp).2.1
  have hk0 := h1.kl
  have hs1 := h1.tk.size
  have hs2 := h2.tk.size
  obtain ⟨rb, rcap, cur, rfl, hrb0, hrb1, hrb2, hrb3, hrb4, hrb5⟩ : ∃ g cap cur, rv = .slice (some ⟨g, 0, none⟩) us.length cap ∧ W0.heap.size ≤ g ∧ W1.heap[g]? = some (.cells cur 48 (0, 0)) ∧ us.length ≤ cap ∧ cap ≤ maxLen ∧ cur.size = cap * 8 ∧ cur.toList.take (us.length * 8) = stCells (List.replicate us.length stNew) := by
    rcases h1.rooms.2 with ⟨_, h0⟩ | hq
    · omega
    · exact hq
  have hrlt := (h1.rooms.lt rb rfl).2
  have hkeep : ∀ k, k < W1.heap.size → k ≠ kb → W.heap[k]? = W1.heap[k]? := fun k h3 h4 => h2.tk.block k h3 (by simpa using h4)
  have hsp1 : W1.ownsRow (w.heap.size + 1) 42 3 sv p.spans.length (spCells p.spans) := own_block hsp (fun k hk => h1.tk.block k (hsp.lt k hk).2 (by simpa using hspk k hk))
  have hspW : W.ownsRow (w.heap.size + 1) 42 3 sv p.spans.length (spCells p.spans) := own_block hsp1 (fun k hk => hkeep k (hsp1.lt k hk).2 (hspk k hk))
  have hcW : W.ownsRow W0.heap.size 26 1 cv us.length us := own_block h1.code (fun k hk => hkeep k (h1.code.lt k hk).2 (by have := (h1.code.lt k hk).1; omega))
  have hrW : ∀ (i : Nat) u c, us[i]? = some u → p.code[i]? = some c → W.ownsRow W0.heap.size 25 3 u c.length (spCells c) := fun i u c hu hc => own_block (h1.rows i u c hu hc) (fun k hk => hkeep k ((h1.rows i u c hu hc).lt k hk).2 (by have := ((h1.rows i u c hu hc).lt k hk).1; omega))
  have hsW : W.ownsRow W0.heap.size 48 8 (.slice (some ⟨rb, 0, none⟩) us.length rcap) us.length (stCells (List.replicate us.length stNew)) := own_block h1.rooms (fun k hk => hkeep k (h1.rooms.lt k hk).2 (by have := (h1.rooms.lt k hk).1; omega))
  have hat : ∀ (i : Nat) u, us[i]? = some u → ∃ c, p.code[i]? = some c := fun i u hu => ⟨_, List.getElem?_eq_getElem (by rw [← hul]; exact (List.getElem?_eq_some_iff.1 hu).1)⟩
  have hF0 : ∀ g ∈ sv.ownBlock.toList ++ (cv.ownBlock.toList ++ us.filterMap Value.ownBlock), w.heap.size + 1 ≤ g ∧ g < W1.heap.size ∧ g ≠ kb ∧ g ≠ rb := fun g hg => by
    rcases List.mem_append.1 hg with hg | hg
    · have e := ofOwn hg
      have hl := hsp.lt g e
      have hl1 := hsp1.lt g e
      exact ⟨hl.1, hl1.2, hspk g e, fun e2 => by have := hl.2; omega⟩
    · rcases List.mem_append.1 hg with hg | hg
      · have e := ofOwn hg
        have hl := h1.code.lt g e
        refine ⟨by omega, hl.2, by omega, fun e2 => ?_⟩
        rcases own_apart (by decide) h1.code h1.rooms with h3 | h3
        · rw [h3] at e; cases e
        · exact h3 (by rw [e, e2]; rfl)
      · obtain ⟨u, hu, e⟩ := List.mem_filterMap.1 hg
        obtain ⟨i, hi⟩ := List.mem_iff_getElem?.1 hu
        obtain ⟨c, hc⟩ := hat i u hi
        have hr := h1.rows i u c hi hc
        have hl := hr.lt g e
        refine ⟨by omega, hl.2, by omega, fun e2 => ?_⟩
        rcases own_apart (by decide) hr h1.rooms with h3 | h3
        · rw [h3] at e; cases e
        · exact h3 (by rw [e, e2]; rfl)
  have hlv : (p.wires = [] ∧ lv = .slice none 0 0) ∨ ∃ g cap, lv = .slice (some ⟨g, 0, none⟩) p.wires.length cap ∧ p.wires.length ≤ cap ∧ W1.heap.size ≤ g ∧ g < W.heap.size ∧ (∀ (i : Nat) b, bs[i]? = some b → W.cell? ⟨g, i, none⟩ = some (glP b)) := by
    rcases h2.row.2 with ⟨h3, h4⟩ | ⟨g, cap, cur, h3, h4, h5, h6, h7, h8, h9⟩
    · exact Or.inl ⟨List.length_eq_zero_iff.1 (by omega), h3⟩
    · refine Or.inr ⟨g, cap, by rw [h3, hbl], by omega, h4, (Array.getElem?_eq_some_iff.1 h5).1, fun i b hi => ?_⟩
      have := h2.row
      rw [h3] at this
      exact (own_cap this).2.2.2.2.1 i _ (by simp [hi])
  obtain ⟨lr, hl1, hl2, hl3, hl4, hl5⟩ : ∃ lr, ((p.wires = [] ∧ lv = .slice none 0 0) ∨ ∃ cap, lv = .slice (some ⟨lr, 0, none⟩) p.wires.length cap ∧ p.wires.length ≤ cap) ∧ (∀ (i : Nat) b, bs[i]? = some b → W.cell? ⟨lr, i, none⟩ = some (glP b)) ∧ lr < W.heap.size ∧ (∀ b ∈ bs, b ≠ lr) ∧ (lr = w.heap.size ∨ W1.heap.size ≤ lr) := by
    rcases hlv with ⟨h3, h4⟩ | ⟨g, cap, h3, h4, h5, h6, h7⟩
    · have hb0 : bs = [] := List.length_eq_zero_iff.1 (by rw [hbl, h3]; rfl)
      subst hb0
      exact ⟨w.heap.size, Or.inl ⟨h3, h4⟩, fun i b hi => (by simp at hi), (by omega), fun b hb => (by cases hb), Or.inl rfl⟩
    · exact ⟨g, Or.inr ⟨cap, h3, h4⟩, h7, h6, fun b hb e => h2.ne b hb (by rw [h3, e]; rfl), Or.inr h5⟩
  have hdf : ∀ g ∈ DF lr bs (bs.map fun _ => Value.slice none 0 0), g = w.heap.size ∨ W1.heap.size ≤ g := fun g hg => by
    unfold DF at hg
    rcases List.mem_cons.1 hg with e | e
    · rw [e]; exact hl5
    · rcases List.mem_append.1 e with e | e
      · exact Or.inr (h2.ge g e).1
      · obtain ⟨u, hu, e2⟩ := List.mem_filterMap.1 e
        obtain ⟨_, _, rfl⟩ := List.mem_map.1 hu
        simp [Value.ownBlock] at e2
  have hdg : ∀ g ∈ DF lr bs (bs.map fun _ => Value.slice none 0 0), w.heap.size ≤ g := fun g hg => by
    rcases hdf g hg with e | e <;> omega
  refine ⟨⟨cv, sv, sv.ownBlock.toList ++ (cv.ownBlock.toList ++ us.filterMap Value.ownBlock), rb, rcap, lv, lr, W.heap.size, bs, bs.map fun _ => .slice none 0 0⟩, c0, c1, c2, ?_, c4, c5, h2.blk.free 5, h2.blk.free 2, fun w' hs hb => ⟨?_, ?_⟩, fun i s hs => ?_, fun o => ?_, ⟨?_, fun i b hi => hl2 i b hi, by simpa [newK] using hbl, by simpa [newK] using hbl, fun i l b u h3 h4 h5 => ?_, ⟨hl3, fun b hb => (h2.ge b hb).2⟩, Nat.le_refl _, hl4, fun i j b b' hij hi hj => Nat.ne_of_lt (h2.two i j b b' hij hi hj), fun i j u u' _ hi _ g hg => ?_⟩, fun g hg => ?_, ⟨?_, ?_, fun g hg => ?_⟩, ⟨?_, fun hm => ?_, fun hm => ?_⟩, ⟨fun hm => (hF0 kb hm).2.2.1 rfl, fun hm => (hF0 rb hm).2.2.2 rfl, fun g hg hm => ?_⟩⟩
  · simp only [newK, List.length_map]
    rw [← hul]
    exact c3
  · exact gcds_own (own_block hcW (fun k hk => hb k (by simp [hk]))) hul (fun i u c hu hc => gops_own (own_block (hrW i u c hu hc) (fun k hk => hb k (List.mem_append_right _ (List.mem_append_right _ (List.mem_filterMap.2 ⟨u, List.mem_of_getElem? hu, hk⟩))))))
  · exact sps_of_own (own_block hspW (fun k hk => hb k (by simp [hk])))
  · have hlt := (List.getElem?_eq_some_iff.1 hs).1
    simp only [newK, List.length_map] at hlt
    simp only [newK, List.getElem?_map, List.getElem?_eq_getElem hlt, Option.map_some, Option.some.injEq] at hs
    subst hs
    have hcs : ∀ j u, (stCells (List.replicate us.length stNew))[j]? = some u → W.cell? ⟨rb, j, none⟩ = some u := fun j u hu => by
      have := hsW.cells (g := rb) rfl j u hu
      rwa [Addr.add_lit, Nat.zero_add] at this
    obtain ⟨q0, q1, q2, q3, q4, q5, q6, q7⟩ := stCells_at (List.replicate us.length stNew) i stNew (by rw [List.getElem?_replicate, if_pos (by omega)])
    exact ⟨hcs _ _ q0, hcs _ _ q1, hcs _ _ q2, hcs _ _ q3, hcs _ _ q4, hcs _ _ q5, hcs _ _ q6, hcs _ _ q7⟩
  · have e : W.heap[rb]? = _ := (hkeep rb hrlt (by omega)).trans hrb1
    simp [World.frozen?, e]
  · rcases hl1 with ⟨h3, h4⟩ | ⟨cap, h3, h4⟩
    · exact Or.inl ⟨by simp [newK, h3], h4⟩
    · exact Or.inr ⟨cap, by simpa [newK] using h3, by simpa [newK] using h4⟩
  · simp only [newK, List.getElem?_map, Option.map_eq_some_iff] at h3
    obtain ⟨x, hx, rfl⟩ := h3
    simp only [List.getElem?_map, Option.map_eq_some_iff] at h5
    obtain ⟨_, _, rfl⟩ := h5
    exact ⟨h2.line i b x h4 hx, World.ownsRow_nil _ _ _ _, (h2.ge b (List.mem_of_getElem? h4)).2, Nat.le_refl _⟩
  · simp only [List.getElem?_map, Option.map_eq_some_iff] at hi
    obtain ⟨_, _, rfl⟩ := hi
    simp [Value.ownBlock] at hg
  · unfold GW.F at hg
    simp only [List.mem_cons] at hg
    rcases hg with e | e | e
    · omega
    · omega
    · rcases List.mem_append.1 e with e | e
      · have := (hF0 g e).1
        omega
      · exact hdg g e
  · omega
  · show rb < W.heap.size
    omega
  · have := (hF0 g hg).2.1
    omega
  · show kb ≠ rb
    omega
  · rcases hdf kb hm with e | e <;> omega
  · rcases hdf rb hm with e | e <;> omega
  · have h3 := hF0 g hg
    rcases hdf g hm with e | e <;> omega
end Go.Proofs.YtajfgmlockjmhadDoor
namespace Go.Proofs.YtajfgmlockjmhadDoor
open Go.RowKit

def woutB (n : Int) : Bool := decide (n < 0) || decide (999 < n)
set_option maxRecDepth 100000 in
set_option maxHeartbeats 1000000 in
theorem wout_yes (n : Int) (w : World) (h : n < 0 ∨ 1000 ≤ n) : Calls Tryd.prog 84 #[.int .i64 n] w fun e w' => e = .returned (.bool true) ∧ w' = w := by
  by_cases h0 : n < 0
  · clear h
    go_enter Tryd.func84, Tryd.ntmps84
    go_wp2
    go_ret
    exact ⟨rfl, rfl⟩
  · have h0' : decide (n < 0) = false := by simpa using h0
    have h1 : 1000 ≤ n := by omega
    clear h
    go_enter Tryd.func84, Tryd.ntmps84
    go_wp2
    go_ret
    exact ⟨rfl, rfl⟩
set_option maxRecDepth 100000 in
set_option maxHeartbeats 1000000 in
theorem wout_no (n : Int) (w : World) (h0 : 0 ≤ n) (h1 : n < 1000) : Calls Tryd.prog 84 #[.int .i64 n] w fun e w' => e = .returned (.bool false) ∧ w' = w := by
  have h0' : decide (n < 0) = false := by simpa using h0
  have h1' : decide (1000 ≤ n) = false := by simpa using h1
  go_enter Tryd.func84, Tryd.ntmps84
  go_wp2
  go_ret
  exact ⟨rfl, rfl⟩
theorem wout_any (n : Int) (w : World) : Calls Tryd.prog 84 #[.int .i64 n] w fun e w' => e = .returned (.bool (woutB n)) ∧ w' = w := by
  by_cases h : n < 0 ∨ 1000 ≤ n
  · have e : woutB n = true := by unfold woutB; rw [Bool.or_eq_true]; rcases h with h | h; exact Or.inl (decide_eq_true h); exact Or.inr (decide_eq_true (by omega))
    rw [e]; exact wout_yes n w h
  · have e : woutB n = false := by unfold woutB; rw [Bool.or_eq_false_iff]; exact ⟨decide_eq_false (by omega), decide_eq_false (by omega)⟩
    rw [e]; exact wout_no n w (by omega) (by omega)
end Go.Proofs.YtajfgmlockjmhadDoor
namespace Go.Proofs.YtajfgmlockjmhadDoor
open Go.RowKit

set_option maxRecDepth 100000 in
set_option maxHeartbeats 2000000 in
theorem wnew_no (f t k d : Int) (w : World) (h : wchk f t k d ≠ 0) : Calls Tryd.prog 32 #[wV f t k d] w fun e w' => e = .returned (.tuple #[.pointer none, .iface 71 (.int .i64 (wchk f t k d))]) ∧ Below w.heap.size w w' := by
  have hA : Below w.heap.size w (w.alloc (.cells #[.int .i64 f, .int .i64 t, .int .i64 k, .int .i64 d] 23)) := (Below.refl _ _).alloc (Nat.le_refl _) _
  have hc := wcheck_any f t k d (w.alloc (.cells #[.int .i64 f, .int .i64 t, .int .i64 k, .int .i64 d] 23))
  rw [wErr_not h] at hc
  clear h
  generalize wchk f t k d = q at hc ⊢
  unfold wV at hc ⊢
  go_enter Tryd.func32, Tryd.ntmps32
  go_wp2_with (go_at_call 8; refine hc.mono ?_; rintro e w1 ⟨rfl, b1⟩; clear hc)
  go_ret2
  exact ⟨rfl, hA.trans (b1.mono hA.size)⟩
set_option maxRecDepth 100000 in
set_option maxHeartbeats 2000000 in
theorem wnew_ok (f t k d : Int) (w : World) (h : wchk f t k d = 0) : Calls Tryd.prog 32 #[wV f t k d] w fun e w' => ∃ b, e = .returned (.tuple #[.pointer (some ⟨b, 0, none⟩), .nilIface]) ∧ LnC w' b k d 0 (.slice none 0 0) ∧ w.heap.size ≤ b ∧ b < w'.heap.size ∧ Below w.heap.size w w' := by
  have hA : Below w.heap.size w (w.alloc (.cells #[.int .i64 f, .int .i64 t, .int .i64 k, .int .i64 d] 23)) := (Below.refl _ _).alloc (Nat.le_refl _) _
  have hc := wcheck_any f t k d (w.alloc (.cells #[.int .i64 f, .int .i64 t, .int .i64 k, .int .i64 d] 23))
  rw [h] at hc
  have hc' : Calls Tryd.prog 8 #[wV f t k d] (w.alloc (.cells #[.int .i64 f, .int .i64 t, .int .i64 k, .int .i64 d] 23)) fun e w' => e = .returned .nilIface ∧ Below (w.heap.size + 1) (w.alloc (.cells #[.int .i64 f, .int .i64 t, .int .i64 k, .int .i64 d] 23)) w' := hc.mono fun e w' ⟨h1, h2⟩ => ⟨h1, by simpa using h2⟩
  clear h hc
  unfold wV at hc' ⊢
  go_enter Tryd.func32, Tryd.ntmps32
  go_wp2_with (go_at_call 8; refine hc'.mono ?_; rintro e w1 ⟨rfl, b1⟩; clear hc'; have r2 : w1.cell? ⟨w.heap.size, 2, none⟩ = some (.int .i64 k) := (b1.cell (p := ⟨w.heap.size, 2, none⟩) (by simp)).trans (by simp); have r3 : w1.cell? ⟨w.heap.size, 3, none⟩ = some (.int .i64 d) := (b1.cell (p := ⟨w.heap.size, 3, none⟩) (by simp)).trans (by simp))
  go_ret2
  have hz : w.heap.size + 1 ≤ w1.heap.size := by have := b1.size; simpa using this
  refine ⟨w1.heap.size, rfl, ⟨by simp, by simp, by simp, by simp, by simp, by simp⟩, by omega, by simp, ?_⟩
  exact (hA.trans (b1.mono (by omega))).alloc (by omega) _

set_option maxRecDepth 100000 in
set_option maxHeartbeats 2000000 in
theorem send_range (v : Value) (n : Int) (w : World) (h : n < 0 ∨ 1000 ≤ n) : Calls Tryd.prog 77 #[v, .int .i64 n] w fun e w' => e = .returned (.tuple #[.bool false, .iface 71 (.int .i64 1)]) ∧ w' = w := by
  have ho := wout_yes n w h
  clear h
  go_enter Tryd.func77, Tryd.ntmps77
  go_wp2_with (go_at_call 84; refine ho.mono ?_; rintro e w1 ⟨rfl, hw1⟩; subst hw1; clear ho)
  go_ret2
  exact ⟨rfl, rfl⟩

set_option maxRecDepth 100000 in
set_option maxHeartbeats 4000000 in
theorem send_full (base b : Nat) (dp : Int) (xs : List Int) (ls : Int) (v : Value) (n : Int) (w : World) (hn0 : 0 ≤ n) (hn1 : n < 1000) (hls : 0 ≤ ls ∧ ls < 1000000000) (hL : Ln w base b 2 dp xs ls v) (hdp : dp ≤ (xs.length : Int)) :
    Calls Tryd.prog 77 #[.pointer (some ⟨b, 0, none⟩), .int .i64 n] w fun e w' => e = .returned (.tuple #[.bool false, .nilIface]) ∧ Ln w' base b 2 dp xs (ls + 1) v ∧ Touch w w' b v v := by
  have hcc := hL.c
  have hlt := hcc.lt
  obtain ⟨c0, c1, c2, c3, f2, f3⟩ := hcc
  obtain ⟨ao, cap, rfl⟩ : ∃ ao cap, v = .slice ao xs.length cap := by
    rcases row_form hL.row with ⟨rfl, h⟩ | ⟨g, cap, rfl⟩
    · exact ⟨_, _, by rw [h]⟩
    · exact ⟨_, _, rfl⟩
  have HL : Hid (Ln w base b 2 dp xs ls (.slice ao xs.length cap)) := hL
  clear hL
  obtain ⟨hls0, hls1⟩ := hls
  go_enter Tryd.func77, Tryd.ntmps77
  go_wp2_with (go_at_call 84; refine (wout_no n _ hn0 hn1).mono ?_; rintro e wz ⟨rfl, hwz⟩; subst wz)
  go_quiet (fail)
  go_wp2
  go_ret2
  have hq := HL.out.below (below_dN (Below.refl _ w) nq)
  exact ⟨rfl, ⟨hq.c.lost _, ownsRow_setCell_below hq.row (a := ⟨b, 3, none⟩) hq.lt _, hq.lt, by have := hq.le; simpa using this⟩, ((Touch.refl w b _).dN nq).set 3 _⟩

set_option maxRecDepth 100000 in
set_option maxHeartbeats 4000000 in
theorem send_room (base b : Nat) (dp : Int) (xs : List Int) (ls : Int) (v : Value) (n : Int) (w : World) (hn0 : 0 ≤ n) (hn1 : n < 1000) (hL : Ln w base b 2 dp xs ls v) (hdp : (xs.length : Int) < dp) (hx : xs.length ≤ 1000000) :
    Calls Tryd.prog 77 #[.pointer (some ⟨b, 0, none⟩), .int .i64 n] w fun e w' => ∃ v', e = .returned (.tuple #[.bool true, .nilIface]) ∧ Ln w' base b 2 dp (xs ++ [n]) ls v' ∧ Touch w w' b v v' := by
  obtain ⟨ii, hi, hz0, hz1, hz2⟩ := info_parts infoInt
  have hcc := hL.c
  have hlt := hcc.lt
  obtain ⟨c0, c1, c2, c3, f2, f3⟩ := hcc
  obtain ⟨ao, cap, rfl⟩ : ∃ ao cap, v = .slice ao xs.length cap := by
    rcases row_form hL.row with ⟨rfl, h⟩ | ⟨g, cap, rfl⟩
    · exact ⟨_, _, by rw [h]⟩
    · exact ⟨_, _, rfl⟩
  have HL : Hid (Ln w base b 2 dp xs ls (.slice ao xs.length cap)) := hL
  clear hL
  go_enter Tryd.func77, Tryd.ntmps77
  go_wp2_with (go_at_call 84; refine (wout_no n _ hn0 hn1).mono ?_; rintro e wz ⟨rfl, hwz⟩; subst wz)
  go_quiet (fail)
  have hq := HL.out.below (below_dN (Below.refl _ w) nq)
  have HQ : Hid (Ln (w.drewN nq) base b 2 dp xs ls (.slice ao xs.length cap)) := hq
  have hrow := hq.row
  clear hq
  go_wp2_with (at_builtin; refine wpList_append_at _ rfl _ _ 56 rfl base 3 ii (.int .i64 0) 1 8 Tryd.underlying56 hi hz0 hz1 hz2 rfl (by decide) _ _ _ rfl (hrow.alloc _) ⟨(w.drewN nq).heap.size, 0, none⟩ 1 1 [.int .i64 n] rfl rfl ?c1A ?c2A ?c3A ?c4A ?c5A ?_)
  case c1A => exact one_new _ _ _
  case c2A => exact one_one n
  case c3A => unfold maxLen; omega
  case c4A => omega
  case c5A => have := HQ.out.le; simp at this ⊢; omega
  intro v1 w2 own1 hg1 hat1
  have hne1 : some b ≠ (Value.slice ao xs.length cap).ownBlock := fun e => by have := (hrow.lt _ e.symm).1; have := HQ.out.lt; omega
  have hs1 : w.heap.size + 1 ≤ w2.heap.size := by have := hg1.size; simpa using this
  have hT : Touch w w2 b (.slice ao xs.length cap) v1 := (((Touch.refl w b _).dN nq).alloc _).grown hg1 (fun k hk => by have := hat1 k hk; simpa using this)
  have hc2 : LnC w2 b 2 dp ls (.slice ao xs.length cap) := (HQ.out.c.block (Below.heap_alloc _ _ _ (by simpa using hlt))).block (hg1.block b (by simp; omega) hne1)
  have HC : Hid (LnC w2 b 2 dp ls (.slice ao xs.length cap)) := hc2
  obtain ⟨k0, k1, k2, k3, k4, k5⟩ := hc2
  clear hrow hg1 hat1 c0 c1 c2 c3 f2 f3 k0 k1 k3 k5
  have hlt2 : b < w2.heap.size := by omega
  have hrow2 := ownsRow_setCell_below own1 (a := ⟨b, 2, none⟩) HQ.out.lt v1
  obtain ⟨g1, cap1, rfl⟩ : ∃ g cap, v1 = .slice (some ⟨g, 0, none⟩) (xs.length + 1) cap := by
    rcases row_form own1 with ⟨_, h⟩ | h
    · omega
    · exact h
  clear own1
  go_wp2
  go_ret2
  exact ⟨_, rfl, ⟨HC.out.items _, by rw [ints_snoc, List.length_append]; exact hrow2, HQ.out.lt, by have := HQ.out.le; simp at this ⊢; omega⟩, hT.set 2 _⟩

set_option maxRecDepth 100000 in
set_option maxHeartbeats 4000000 in
theorem send_sample (base b : Nat) (xs : List Int) (ls : Int) (v : Value) (n : Int) (w : World) (hn0 : 0 ≤ n) (hn1 : n < 1000) (hL : Ln w base b 1 1 xs ls v) :
    Calls Tryd.prog 77 #[.pointer (some ⟨b, 0, none⟩), .int .i64 n] w fun e w' => ∃ v', e = .returned (.tuple #[.bool true, .nilIface]) ∧ Ln w' base b 1 1 [n] ls v' ∧ Touch w w' b v v' := by
  obtain ⟨ii, hi, hz0, hz1, hz2⟩ := info_parts infoInt
  have hcc := hL.c
  have hlt := hcc.lt
  obtain ⟨c0, c1, c2, c3, f2, f3⟩ := hcc
  have HL : Hid (Ln w base b 1 1 xs ls v) := hL
  have hrw := hL.row
  clear hL
  rcases row_form hrw with ⟨rfl, hx0⟩ | ⟨g, cap, rfl⟩
  · have hrow0 := World.ownsRow_nil w base 3 1
    clear hrw
    have hL1 : Ln (w.setCell ⟨b, 2, none⟩ (.slice none 0 0)) base b 1 1 [] ls (.slice none 0 0) := ⟨HL.out.c.items _, ownsRow_setCell_below hrow0 (a := ⟨b, 2, none⟩) HL.out.lt _, HL.out.lt, by have := HL.out.le; simpa using this⟩
    have hT1 : Touch w (w.setCell ⟨b, 2, none⟩ (.slice none 0 0)) b (.slice none 0 0) (.slice none 0 0) := ((Touch.refl w b _).set 2 _).cut rfl
    have HL1 : Hid (Ln (w.setCell ⟨b, 2, none⟩ (.slice none 0 0)) base b 1 1 [] ls (.slice none 0 0)) := hL1
    clear hL1
    go_enter Tryd.func77, Tryd.ntmps77
    go_wp2_with (go_at_call 84; refine (wout_no n _ hn0 hn1).mono ?_; rintro e wz ⟨rfl, hwz⟩; subst wz)
    go_quiet (fail)
    have hq := HL1.out.below (below_dN (Below.refl _ _) nq)
    have HQ : Hid (Ln ((w.setCell ⟨b, 2, none⟩ (.slice none 0 0)).drewN nq) base b 1 1 [] ls (.slice none 0 0)) := hq
    have hrow := hq.row
    clear hq
    go_wp2_with (at_builtin; refine wpList_append_at _ rfl _ _ 56 rfl base 3 ii (.int .i64 0) 1 8 Tryd.underlying56 hi hz0 hz1 hz2 rfl (by decide) _ _ _ rfl (hrow.alloc _) ⟨w.heap.size, 0, none⟩ 1 1 [.int .i64 n] rfl rfl ?c1A ?c2A ?c3A ?c4A ?c5A ?_)
    case c1A => exact one_new_at (by simp) _ _
    case c2A => exact one_one n
    case c3A => unfold maxLen; simp
    case c4A => simp
    case c5A => have := HQ.out.le; simp at this ⊢; omega
    intro v1 w2 own1 hg1 hat1
    have hne1 : some b ≠ (Value.slice none 0 0).ownBlock := fun e => by have := (hrow.lt _ e.symm).1; have := HQ.out.lt; omega
    have hs1 : w.heap.size + 1 ≤ w2.heap.size := by have := hg1.size; simpa using this
    have hT : Touch w w2 b (.slice none 0 0) v1 := ((hT1.dN nq).alloc _).grown hg1 (fun k hk => by have := hat1 k hk; simpa using this)
    have hc2 : LnC w2 b 1 1 ls (.slice none 0 0) := (HQ.out.c.block (Below.heap_alloc _ _ _ (by simpa using hlt))).block (hg1.block b (by simp; omega) hne1)
    have HC : Hid (LnC w2 b 1 1 ls (.slice none 0 0)) := hc2
    obtain ⟨k0, k1, k2, k3, k4, k5⟩ := hc2
    clear hrow hg1 hat1 c0 c1 c2 c3 f2 f3 k0 k1 k3 k5
    have hlt2 : b < w2.heap.size := by omega
    have hrow2 := ownsRow_setCell_below own1 (a := ⟨b, 2, none⟩) HQ.out.lt v1
    obtain ⟨g1, cap1, rfl⟩ : ∃ g cap, v1 = .slice (some ⟨g, 0, none⟩) 1 cap := by
      rcases row_form own1 with ⟨_, h⟩ | h
      · simp at h
      · simpa using h
    clear own1
    go_wp2
    go_ret2
    exact ⟨_, rfl, ⟨HC.out.items _, hrow2, HQ.out.lt, by have := HQ.out.le; simp at this ⊢; omega⟩, hT.set 2 _⟩
  · obtain ⟨hg0, hg1, hg2, hg3, _, _, _⟩ := own_cap hrw
    have hrow0 := own_cut hrw (Nat.zero_le _)
    unfold maxLen at hg3
    clear hrw
    have hL1 : Ln (w.setCell ⟨b, 2, none⟩ (.slice (some ⟨g, 0, none⟩) 0 cap)) base b 1 1 [] ls (.slice (some ⟨g, 0, none⟩) 0 cap) := ⟨HL.out.c.items _, ownsRow_setCell_below hrow0 (a := ⟨b, 2, none⟩) HL.out.lt _, HL.out.lt, by have := HL.out.le; simpa using this⟩
    have hT1 : Touch w (w.setCell ⟨b, 2, none⟩ (.slice (some ⟨g, 0, none⟩) 0 cap)) b (.slice (some ⟨g, 0, none⟩) xs.length cap) (.slice (some ⟨g, 0, none⟩) 0 cap) := ((Touch.refl w b _).set 2 _).cut rfl
    have HL1 : Hid (Ln (w.setCell ⟨b, 2, none⟩ (.slice (some ⟨g, 0, none⟩) 0 cap)) base b 1 1 [] ls (.slice (some ⟨g, 0, none⟩) 0 cap)) := hL1
    clear hL1
    go_enter Tryd.func77, Tryd.ntmps77
    go_wp2_with (go_at_call 84; refine (wout_no n _ hn0 hn1).mono ?_; rintro e wz ⟨rfl, hwz⟩; subst wz)
    go_quiet (fail)
    have hq := HL1.out.below (below_dN (Below.refl _ _) nq)
    have HQ : Hid (Ln ((w.setCell ⟨b, 2, none⟩ (.slice (some ⟨g, 0, none⟩) 0 cap)).drewN nq) base b 1 1 [] ls (.slice (some ⟨g, 0, none⟩) 0 cap)) := hq
    have hrow := hq.row
    clear hq
    go_wp2_with (at_builtin; refine wpList_append_at _ rfl _ _ 56 rfl base 3 ii (.int .i64 0) 1 8 Tryd.underlying56 hi hz0 hz1 hz2 rfl (by decide) _ _ _ rfl (hrow.alloc _) ⟨w.heap.size, 0, none⟩ 1 1 [.int .i64 n] rfl rfl ?c1A ?c2A ?c3A ?c4A ?c5A ?_)
    case c1A => exact one_new_at (by simp) _ _
    case c2A => exact one_one n
    case c3A => unfold maxLen; simp
    case c4A => simp
    case c5A => have := HQ.out.le; simp at this ⊢; omega
    intro v1 w2 own1 hg1 hat1
    have hne1 : some b ≠ (Value.slice (some ⟨g, 0, none⟩) 0 cap).ownBlock := fun e => by have := (hrow.lt _ e.symm).1; have := HQ.out.lt; omega
    have hs1 : w.heap.size + 1 ≤ w2.heap.size := by have := hg1.size; simpa using this
    have hT : Touch w w2 b (.slice (some ⟨g, 0, none⟩) xs.length cap) v1 := ((hT1.dN nq).alloc _).grown hg1 (fun k hk => by have := hat1 k hk; simpa using this)
    have hc2 : LnC w2 b 1 1 ls (.slice (some ⟨g, 0, none⟩) 0 cap) := (HQ.out.c.block (Below.heap_alloc _ _ _ (by simpa using hlt))).block (hg1.block b (by simp; omega) hne1)
    have HC : Hid (LnC w2 b 1 1 ls (.slice (some ⟨g, 0, none⟩) 0 cap)) := hc2
    obtain ⟨k0, k1, k2, k3, k4, k5⟩ := hc2
    clear hrow hg1 hat1 c0 c1 c2 c3 f2 f3 k0 k1 k3 k5
    have hlt2 : b < w2.heap.size := by omega
    have hrow2 := ownsRow_setCell_below own1 (a := ⟨b, 2, none⟩) HQ.out.lt v1
    obtain ⟨g1, cap1, rfl⟩ : ∃ g cap, v1 = .slice (some ⟨g, 0, none⟩) 1 cap := by
      rcases row_form own1 with ⟨_, h⟩ | h
      · simp at h
      · simpa using h
    clear own1
    go_wp2
    go_ret2
    exact ⟨_, rfl, ⟨HC.out.items _, hrow2, HQ.out.lt, by have := HQ.out.le; simp at this ⊢; omega⟩, hT.set 2 _⟩
end Go.Proofs.YtajfgmlockjmhadDoor
namespace Go.Proofs.YtajfgmlockjmhadDoor
open Go.RowKit

theorem Ln.form {w : World} {base b : Nat} {kd dp ls : Int} {xs : List Int} {v : Value} (h : Ln w base b kd dp xs ls v) : (v = .slice none 0 0 ∧ xs = []) ∨ ∃ g cap, v = .slice (some ⟨g, 0, none⟩) xs.length cap := by
  rcases row_form h.row with ⟨rfl, h0⟩ | ⟨g, cap, rfl⟩
  · exact Or.inl ⟨rfl, List.eq_nil_of_length_eq_zero h0⟩
  · exact Or.inr ⟨_, _, rfl⟩

set_option maxRecDepth 100000 in
set_option maxHeartbeats 2000000 in
theorem peek_none (b : Nat) (kd dp ls : Int) (ao : Option Addr) (cap : Nat) (w : World) (hL : LnC w b kd dp ls (.slice ao 0 cap)) :
    Calls Tryd.prog 70 #[.pointer (some ⟨b, 0, none⟩)] w fun e w' => e = .returned (.tuple #[.int .i64 0, .bool false]) ∧ w' = w := by
  have hlt := hL.lt
  obtain ⟨c0, c1, c2, c3, f2, f3⟩ := hL
  go_enter Tryd.func70, Tryd.ntmps70
  go_wp2
  go_ret2
  exact ⟨rfl, rfl⟩
set_option maxRecDepth 100000 in
set_option maxHeartbeats 2000000 in
theorem peek_some (b : Nat) (kd dp ls : Int) (g m cap : Nat) (x : Int) (w : World) (hL : LnC w b kd dp ls (.slice (some ⟨g, 0, none⟩) m cap)) (hm : 0 < m) (hx : w.cell? ⟨g, 0, none⟩ = some (.int .i64 x)) :
    Calls Tryd.prog 70 #[.pointer (some ⟨b, 0, none⟩)] w fun e w' => e = .returned (.tuple #[.int .i64 x, .bool true]) ∧ w' = w := by
  have hlt := hL.lt
  have hlt2 := wlt hx
  have hm' : ¬ m = 0 := by omega
  obtain ⟨c0, c1, c2, c3, f2, f3⟩ := hL
  go_enter Tryd.func70, Tryd.ntmps70
  go_wp2
  go_ret2
  exact ⟨rfl, rfl⟩
end Go.Proofs.YtajfgmlockjmhadDoor
namespace Go.Proofs.YtajfgmlockjmhadDoor
open Go.RowKit

set_option maxRecDepth 100000 in
set_option maxHeartbeats 4000000 in
theorem clone_nil (w : World) : Calls Tryd.prog 56 #[.slice none 0 0] w fun e w' => e = .returned (.slice none 0 0) ∧ w' = w := by
  have q : ∀ (w : World) (a : Option Addr) (n c n' c' : Nat), (binOp .eql 56 (.slice a n c) (.slice none n' c')).run Tryd.prog w = .ok (.bool a.isNone) w := fun w a n c n' c' => Lib.run_eql_slice_nil w _ _ a n c n' c' Tryd.underlying56
  go_enter Tryd.func56, Tryd.ntmps56
  go_wp2
  go_ret
  exact ⟨rfl, rfl⟩
set_option maxRecDepth 100000 in
set_option maxHeartbeats 4000000 in
theorem clone_some (g cap : Nat) (xs : List Int) (w : World) (hx : xs.length ≤ 1000000) (hc : ∀ i x, (ints xs)[i]? = some x → w.cell? ⟨g, i, none⟩ = some x) :
    Calls Tryd.prog 56 #[.slice (some ⟨g, 0, none⟩) xs.length cap] w fun e w' => ∃ v', e = .returned v' ∧ w'.ownsRow w.heap.size 3 1 v' xs.length (ints xs) ∧ Below w.heap.size w w' := by
  obtain ⟨ii, hi, hz0, hz1, hz2⟩ := info_parts infoInt
  have q : ∀ (w : World) (a : Option Addr) (n c n' c' : Nat), (binOp .eql 56 (.slice a n c) (.slice none n' c')).run Tryd.prog w = .ok (.bool a.isNone) w := fun w a n c n' c' => Lib.run_eql_slice_nil w _ _ a n c n' c' Tryd.underlying56
  have HC : Hid (∀ i x, (ints xs)[i]? = some x → w.cell? ⟨g, i, none⟩ = some x) := hc
  clear hc
  go_enter Tryd.func56, Tryd.ntmps56
  go_wp2_with (at_builtin; refine wpList_append_at _ rfl _ _ 56 rfl w.heap.size 3 ii (.int .i64 0) 1 8 Tryd.underlying56 hi hz0 hz1 hz2 rfl (by decide) _ _ _ rfl (World.ownsRow_made w #[] 0 (Nat.le_refl _) (Nat.zero_le _) rfl) ⟨g, 0, none⟩ xs.length cap (ints xs) rfl ?c0A ?c1A ?c2A ?c3A ?c4A ?c5A ?_)
  case c0A => rw [ints_len, Nat.mul_one]
  case c1A =>
    intro j u hj
    have h := HC.out j u hj
    rw [Addr.add_lit, Nat.zero_add]
    exact (((Below.refl _ w).alloc (Nat.le_refl _) _).cell (p := ⟨g, j, none⟩) (wlt h)).trans h
  case c2A => intro u hu; obtain ⟨x, _, rfl⟩ := List.mem_map.1 hu; rfl
  case c3A => unfold maxLen; omega
  case c4A => omega
  case c5A => simp
  intro v1 w2 own1 hg1 hat1
  clear q
  go_wp2
  go_ret
  refine ⟨v1, rfl, by simpa using own1, ((Below.refl _ w).alloc (Nat.le_refl _) _).grown hg1 (by simp) (by intro k hk; simp [Value.ownBlock] at hk; omega)⟩
end Go.Proofs.YtajfgmlockjmhadDoor
namespace Go.Proofs.YtajfgmlockjmhadDoor
open Go.RowKit

set_option maxRecDepth 1000000 in
set_option maxHeartbeats 4000000 in
theorem del_walk (g cap : Nat) (x : Int) (ys : List Int) (w : World) (hcap : ys.length + 1 ≤ cap) (hm : cap ≤ 9223372036854775807) (hc : ∀ i x', (ints (x :: ys))[i]? = some x' → w.cell? ⟨g, i, none⟩ = some x') (hs : ∀ i, i < cap → (w.cell? ⟨g, i, none⟩).isSome = true) (hf : ∀ i, w.frozen? ⟨g, i, none⟩ = false) :
    Calls Tryd.prog 83 #[.slice (some ⟨g, 0, none⟩) (ys.length + 1) cap, .int .i64 0, .int .i64 1] w fun e w' => e = .returned (.slice (some ⟨g, 0, none⟩) ys.length cap) ∧ w' = (w.drew.setCells g 0 (ints ys)).setCells g ys.length [.int .i64 0] := by
  obtain ⟨ii, hi, hz0, hz1, hz2⟩ := info_parts infoInt
  obtain ⟨A, hA, hsrc⟩ : ∃ A : Addr, (if cap = 1 then some (⟨g, 0, none⟩ : Addr) else some ⟨g, 1, none⟩) = some A ∧ Hid (∀ t u, (ints ys)[t]? = some u → w.drew.cell? (A.add t) = some u) := by
    by_cases h : cap = 1
    · refine ⟨⟨g, 0, none⟩, by simp [h], fun t u hu => ?_⟩
      have h0 : ys = [] := List.eq_nil_of_length_eq_zero (by omega)
      subst h0
      simp [ints] at hu
    · refine ⟨⟨g, 1, none⟩, by simp [h], fun t u hu => ?_⟩
      rw [Addr.add_lit, Nat.add_comm]
      exact hc (t + 1) u (by simpa [ints] using hu)
  have s1 : Hid ((ints ys).length = ys.length * 1) := by show _ = _; rw [ints_len, Nat.mul_one]
  have s2 : Hid (∀ u ∈ ints ys, u.oneCell' = true) := by
    intro u hu
    obtain ⟨x, _, rfl⟩ := List.mem_map.1 hu
    rfl
  have s3 : Hid (∀ t, t < (ints ys).length → (w.drew.cell? ⟨g, 0 + 0 * 1 + t, none⟩).isSome = true ∧ w.drew.frozen? ⟨g, 0 + 0 * 1 + t, none⟩ = false) := by
    intro t ht
    rw [ints_len] at ht
    exact ⟨by rw [show 0 + 0 * 1 + t = t by omega]; exact hs t (by omega), hf _⟩
  obtain ⟨W1, hW1⟩ : ∃ W1, W1 = w.drew.setCells g (0 + 0 * 1) (ints ys) := ⟨_, rfl⟩
  have hcl : ∀ ty, (Builtin.clear_ #[56] ty #[.slice (some ⟨g, ys.length, none⟩) 1 (cap - ys.length)]).run Tryd.prog W1 = .ok (.tuple #[]) (W1.setCells g ys.length [.int .i64 0]) := by
    intro ty
    have hce : W1.cell? ⟨g, ys.length, none⟩ = w.cell? ⟨g, ys.length, none⟩ := by
      rw [hW1, World.cell?_setCells_out g _ _ _ _ (fun _ _ => by right; show 0 + 0 * 1 + (ints ys).length ≤ ys.length; rw [ints_len]; omega)]
      rfl
    have hfe : W1.frozen? ⟨g, ys.length, none⟩ = w.frozen? ⟨g, ys.length, none⟩ := by
      rw [hW1, World.frozen?_setCells]
      rfl
    exact Lib.run_clear_slice W1 56 3 ty (.int .i64 0) Tryd.underlying56 Tryd.zeroValue3 rfl rfl g ys.length 1 (cap - ys.length) (by omega)
      (fun j hj => by obtain rfl : j = 0 := by omega
                      rw [Nat.add_zero, hce]; exact hs _ (by omega))
      (fun j hj => by obtain rfl : j = 0 := by omega
                      rw [Nat.add_zero, hfe]; exact hf _)
  have hW : Hid (W1 = w.drew.setCells g (0 + 0 * 1) (ints ys)) := hW1
  clear hW1
  have h1c : 1 ≤ cap := by omega
  have h1i : (1 : Int) ≤ (ys.length : Int) + 1 := by omega
  clear hc hs hf
  go_enter Tryd.func83, Tryd.ntmps83
  go_wp2_with fail
  go_region_law (refine step_append_room rfl (.tmp 22) (.tmp 25) 56 rfl 3 ii 1 Tryd.underlying56 hi hz1 g 0 0 cap (by simp [Act.eval, Act.put]) A ys.length (cap - 1) (ints ys) (by simp [Act.eval, Act.put]) s1.out hsrc.out s2.out (by omega) s3.out ?_; rw [← hW.out])
  all_goals go_wp2
  all_goals go_ret
  all_goals exact ⟨rfl, by rw [hW.out]⟩

theorem cells_heap {g : Nat} {e : TypeId} : ∀ (vs : List Value) (o : Nat) (w : World) (cur : Array Value), w.heap[g]? = some (.cells cur e (0, 0)) → ∃ cur', (w.setCells g o vs).heap[g]? = some (.cells cur' e (0, 0)) ∧ cur'.size = cur.size
  | [], _, _, cur, h => ⟨cur, h, rfl⟩
  | v :: r, o, w, cur, h => by
    obtain ⟨c, h1, h2⟩ := cells_heap r (o + 1) (w.setCell ⟨g, o, none⟩ v) _ (heap_setCell_same w g o cur e v h)
    exact ⟨c, h1, by simpa using h2⟩
theorem cells_other {g k : Nat} (hk : k ≠ g) : ∀ (vs : List Value) (o : Nat) (w : World), (w.setCells g o vs).heap[k]? = w.heap[k]?
  | [], _, _ => rfl
  | v :: r, o, w => by rw [World.setCells, cells_other hk r, heap_setCell_other _ _ _ _ hk]
theorem cells_rest (g : Nat) : ∀ (vs : List Value) (o : Nat) (w : World), (w.setCells g o vs).os = w.os ∧ (w.setCells g o vs).tape = w.tape ∧ (w.setCells g o vs).output = w.output ∧ (w.setCells g o vs).heap.size = w.heap.size
  | [], _, _ => ⟨rfl, rfl, rfl, rfl⟩
  | v :: r, o, w => by
    obtain ⟨h1, h2, h3, h4⟩ := cells_rest g r (o + 1) (w.setCell ⟨g, o, none⟩ v)
    exact ⟨h1, h2, h3, h4.trans (by simp [World.setCell])⟩
/-- Behind it the row is what it was without its first. -/
theorem del_row {base g cap : Nat} {x : Int} {ys : List Int} {w : World} (h : w.ownsRow base 3 1 (.slice (some ⟨g, 0, none⟩) (ys.length + 1) cap) (ys.length + 1) (ints (x :: ys))) :
    ((w.drew.setCells g 0 (ints ys)).setCells g ys.length [.int .i64 0]).ownsRow base 3 1 (.slice (some ⟨g, 0, none⟩) ys.length cap) ys.length (ints ys) ∧ w.grownBy ((w.drew.setCells g 0 (ints ys)).setCells g ys.length [.int .i64 0]) (some g) := by
  have hcap := own_cap h
  rcases h.2 with ⟨h2, _⟩ | ⟨g', cap', cur, e0, h3, h4, h5, h6, h7, h8⟩
  · cases h2
  · injection e0 with e1 _ e3
    injection e1 with e1
    injection e1 with e1
    subst e1
    subst e3
    obtain ⟨c1, i1, i2⟩ := cells_heap (g := g) (ints ys) 0 w.drew cur h4
    obtain ⟨c2, j1, j2⟩ := cells_heap (g := g) [.int .i64 0] ys.length _ c1 i1
    obtain ⟨a1, a2, a3, a4⟩ := cells_rest g (ints ys) 0 w.drew
    obtain ⟨b1, b2, b3, b4⟩ := cells_rest g [.int .i64 0] ys.length (w.drew.setCells g 0 (ints ys))
    refine ⟨⟨by rw [ints_len, Nat.mul_one], Or.inr ⟨g, cap, c2, rfl, h3, j1, by omega, h6, by omega, ?_⟩⟩, ⟨b1.trans a1, b2.trans a2, b3.trans a3, by rw [b4, a4]; exact Nat.le_refl _, fun k _ hk => ?_⟩⟩
    · apply List.ext_getElem?
      intro i
      rw [List.getElem?_take, Nat.mul_one]
      by_cases hi : i < ys.length
      · rw [if_pos hi, Array.getElem?_toList]
        have hin := World.cell?_setCells_in g (ints ys) 0 w.drew (fun j hj => hcap.2.2.2.2.2.1 _ (by rw [ints_len] at hj; omega)) i (by rw [ints_len]; exact hi)
        rw [Nat.zero_add] at hin
        have hout := World.cell?_setCells_out g [.int .i64 0] ys.length (w.drew.setCells g 0 (ints ys)) ⟨g, i, none⟩ (fun _ _ => Or.inl hi)
        rw [hin, cell_of_row _ g i c2 _ _ j1] at hout
        rw [hout, List.getElem?_eq_getElem (by rw [ints_len]; exact hi)]
      · rw [if_neg hi, List.getElem?_eq_none (by rw [ints_len]; omega)]
    · have hkg : k ≠ g := fun e => hk (by rw [e])
      rw [cells_other hkg, cells_other hkg]
      rfl
theorem del_first (base g cap : Nat) (x : Int) (ys : List Int) (w : World) (h : w.ownsRow base 3 1 (.slice (some ⟨g, 0, none⟩) (ys.length + 1) cap) (ys.length + 1) (ints (x :: ys))) :
    Calls Tryd.prog 83 #[.slice (some ⟨g, 0, none⟩) (ys.length + 1) cap, .int .i64 0, .int .i64 1] w fun e w' => e = .returned (.slice (some ⟨g, 0, none⟩) ys.length cap) ∧
      w'.ownsRow base 3 1 (.slice (some ⟨g, 0, none⟩) ys.length cap) ys.length (ints ys) ∧ w.grownBy w' (some g) := by
  obtain ⟨_, _, h3, h4, h5, h6, h7⟩ := own_cap h
  refine (del_walk g cap x ys w h3 (by simpa [maxLen] using h4) h5 h6 h7).mono fun e w' ⟨he, hw⟩ => ?_
  subst hw
  exact ⟨he, del_row h⟩
end Go.Proofs.YtajfgmlockjmhadDoor
