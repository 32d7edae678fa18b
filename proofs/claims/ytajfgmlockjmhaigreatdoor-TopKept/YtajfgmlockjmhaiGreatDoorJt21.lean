/-
  KerG, KerGP, KerGT, KerGW, SnLoad: joined into one text.
-/
import Derived.Test.YtajfgmlockjmhaiGreatDoorJt18
import Derived.Test.YtajfgmlockjmhaiGreatDoorGTick
import Derived.Test.YtajfgmlockjmhaiGreatDoorGNew
import Derived.Test.YtajfgmlockjmhaiGreatDoorJt3
import Derived.Test.YtajfgmlockjmhaiGreatDoorJt19
import Derived.Test.YtajfgmlockjmhaiGreatDoorSnRead
import Derived.Test.YtajfgmlockjmhaiGreatDoorSnLay
import Derived.Test.YtajfgmlockjmhaiGreatDoorJt7
namespace Go.Proofs.YtajfgmlockjmhaiGreatDoor
open Go.RowKit

/-- A kernel of package kernel, made since w0, and all its blocks. -/
def KG (w0 w : World) (p : PD) (k : KD) (kb : Nat) (F : List Nat) : Prop := ∃ a : GW, GK w w0.heap.size p k kb a ∧ F = a.F kb ∧ Below w0.heap.size w0 w
def gker {G : World → Prop} (hG : ∀ w, G w → Forms w) (hall : ∀ w w', G w → Below w.heap.size w w' → G w') : KerC G where
  K := fun w0 w p _ _ _ k kb F => KG w0 w p k kb F
  all := hall
  since := fun ⟨_, _, _, hb⟩ => hb
  ge := fun ⟨_, h, hF, _⟩ g hg => by
    subst hF
    exact ⟨h.ge g hg, h.flt g hg⟩
  lower := fun h1 ⟨a, h, hF, hb⟩ => ⟨a, h.lower h1.size, hF, h1.trans (hb.mono h1.size)⟩
  frame := fun ⟨a, h, hF, hb⟩ ht hM => by
    subst hF
    exact ⟨a, h.frame ht (fun m hm => (hM m hm).1), rfl, hb.trans (ht.below (fun m hm => (hM m hm).2) hb.size)⟩
  new := fun p vc vs vw W hg hP hp => by
    refine (gnew_ok p vc vs vw W (hG W hg) hP hp).mono ?_
    rintro e w' ⟨kb, a, rfl, h, hb⟩
    exact ⟨kb, _, rfl, a, h, rfl, hb⟩
  no := fun p vc vs vw W hg hP hp => gnew_no p vc vs vw W (hG W hg) hP hp
  tick := fun {w0 W p _ _ _ k kb F} hg ⟨a, h, hF, hb⟩ hp hk ht => by
    subst hF
    refine (gtick_any p k kb w0.heap.size a W ((hG w0 hg).all hb) h hb.size hp hk ht).mono ?_
    rintro e w' ⟨rfl, a', h1, h2, h3⟩
    exact ⟨rfl, _, ⟨a', h1, rfl, hb.trans (h2.below h.ge hb.size)⟩, h2, h3⟩
  state := fun {_ W p _ _ _ k kb _} r ⟨a, h, _, _⟩ _ _ => gstate_any p k kb _ a r W h
end Go.Proofs.YtajfgmlockjmhaiGreatDoor
namespace Go.Proofs.YtajfgmlockjmhaiGreatDoor
open Go.RowKit

theorem gker_poke {G : World → Prop} (hG : ∀ w, G w → Forms w) (hall : ∀ w w', G w → Below w.heap.size w w' → G w') : KerPoke (gker hG hall) := fun {w0 W p _ _ _ k kb F} r c n ⟨a, h, hF, hb⟩ _ _ => by
  subst hF
  refine (gpoke_any p k kb _ a r c n W h).mono ?_
  rintro e w' ⟨rfl, h1, h2⟩
  exact ⟨rfl, _, ⟨a, h1, rfl, hb.trans (h2.below h.ge hb.size)⟩, h2, fun g hg => Or.inl hg⟩
end Go.Proofs.YtajfgmlockjmhaiGreatDoor
namespace Go.Proofs.YtajfgmlockjmhaiGreatDoor
open Go.RowKit

set_option maxRecDepth 100000 in
set_option maxHeartbeats 1000000 in
theorem gtime_any (p : PD) (k : KD) (kb base : Nat) (a : GW) (w : World) (h : GK w base p k kb a) :
    Calls Tryz.prog 13 #[.pointer (some ⟨kb, 0, none⟩)] w fun e w' => e = .returned (.int .i64 k.time) ∧ ∃ n, w' = w.drewN n := by
  have c5 := h.c5
  clear h
  go_enter Tryz.func13, Tryz.ntmps13
  go_wp2
  go_ret
  exact ⟨rfl, 0, rfl⟩
theorem gker_time {G : World → Prop} (hG : ∀ w, G w → Forms w) (hall : ∀ w w', G w → Below w.heap.size w w' → G w') : KerTime (gker hG hall) := fun {_ W p _ _ _ k kb _} ⟨a, h, _, _⟩ => gtime_any p k kb _ a W h
end Go.Proofs.YtajfgmlockjmhaiGreatDoor
namespace Go.Proofs.YtajfgmlockjmhaiGreatDoor
open Go.RowKit

theorem lines_short {p : PD} {k : KD} (hk : KOk p k) (hp : plchk p = 0) : ∀ l ∈ k.lines, l.xs.length ≤ 1000000 := fun l hl => by
  obtain ⟨i, hi⟩ := List.mem_iff_getElem?.1 hl
  have hlt := (List.getElem?_eq_some_iff.1 hi).1
  have hx : p.wires[i]? = some (p.wires[i]'(by rw [← hk.ll]; exact hlt)) := List.getElem?_eq_getElem _
  have hlo := hk.lines i l _ hi hx
  rcases wchk_kind ((wschk_ok (plchk_zero hp).2.2.2.1).2 _ (List.mem_of_getElem? hx)) with ⟨h1, _⟩ | ⟨h1, h2, h3⟩
  · have := hlo.one h1
    omega
  · have := hlo.deep h1
    omega
theorem gker_wire {G : World → Prop} (hG : ∀ w, G w → Forms w) (hall : ∀ w w', G w → Below w.heap.size w w' → G w') : KerWire (gker hG hall) := fun {_ W p _ _ _ k kb _} i ⟨a, h, _, _⟩ hk hp => gwire_any p k kb _ a i W h (lines_short hk hp)
end Go.Proofs.YtajfgmlockjmhaiGreatDoor
namespace Go.Proofs.YtajfgmlockjmhaiGreatDoor
open Go.RowKit

theorem kps_of {w : World} {base b : Nat} {p : PD} {a : KA} {vr vw : Value} {us : List (Value × Int)} (h : KpB w base b a.t vr vw a.rs us a.zs) (hz : a.zs.length = p.wires.length) : Kps w base vr vw a.rs us (lnsOf p.wires a.zs) := by
  refine ⟨h.rr, h.wr, ?_, fun i u l hu hl => ?_, h.le⟩
  · rw [h.ul]
    simp [lnsOf, hz]
  · unfold lnsOf at hl
    rw [List.getElem?_zipWith] at hl
    split at hl
    · rename_i x z hx hz2
      obtain rfl := Option.some.inj hl
      obtain ⟨q1, q2, q3⟩ := h.at_ i u z hu hz2
      exact ⟨q1, q2, fun g hg => (q3 g hg).1⟩
    · cases hl
theorem kpRun_few {R V : Nat} {ls : List (List UInt8)} {a : KA} {n : Nat} (hn : ∀ l ∈ ls, l.length ≤ n) (h : kpRun R V KA.none ls = some a) : ∀ z ∈ a.zs, z.1.length ≤ n := by
  have key : ∀ (ls : List (List UInt8)) (b a : KA), (∀ l ∈ ls, l.length ≤ n) → (∀ z ∈ b.zs, z.1.length ≤ n) → kpRun R V b ls = some a → ∀ z ∈ a.zs, z.1.length ≤ n := by
    intro ls
    induction ls with
    | nil =>
      intro b a _ hb h
      obtain rfl := Option.some.inj h
      exact hb
    | cons l ls ih =>
      intro b a hl hb h
      rw [kpRun] at h
      cases hx : kpLine R V b l with
      | none => rw [hx] at h; cases h
      | some c =>
        rw [hx] at h
        refine ih c a (fun l' hl' => hl l' (List.mem_cons_of_mem _ hl')) ?_ h
        have hll := hl l (List.mem_cons_self ..)
        unfold kpLine at hx
        split at hx
        · rename_i wd ns hr
          have hlen := read7B_len hr
          split at hx
          · unfold kpTake at hx
            split at hx
            · split at hx
              · obtain rfl := Option.some.inj hx
                exact hb
              · cases hx
            · split at hx
              · obtain ⟨s, _, rfl⟩ := Option.map_eq_some_iff.1 hx
                exact hb
              · split at hx
                · rename_i m xs
                  obtain rfl := Option.some.inj hx
                  intro z hz
                  rcases List.mem_append.1 hz with hz | hz
                  · exact hb z hz
                  · rw [List.mem_singleton] at hz
                    subst hz
                    rw [List.length_cons] at hlen
                    show xs.length ≤ n
                    omega
                · cases hx
          · cases hx
        · cases hx
  exact key ls KA.none a hn (fun z hz => (by cases hz)) h
theorem lnGo_short : ∀ (l cur : List UInt8), ∀ u ∈ linesGo cur l, u.length ≤ cur.length + l.length
  | [], cur, u, hu => by
    unfold linesGo at hu
    split at hu
    · cases hu
    · rw [List.mem_singleton] at hu
      subst hu
      simp
  | x :: xs, cur, u, hu => by
    unfold linesGo at hu
    rw [List.length_cons]
    split at hu
    · rcases List.mem_cons.1 hu with rfl | hu
      · rw [List.length_append, List.length_singleton]
        omega
      · have := lnGo_short xs [] u hu
        rw [List.length_nil] at this
        omega
    · have := lnGo_short xs (cur ++ [x]) u hu
      rw [List.length_append, List.length_singleton] at this
      omega
theorem lnB_short (t : List UInt8) : ∀ u ∈ linesB t, u.length ≤ t.length := fun u hu => by
  have := lnGo_short t [] u hu
  rw [List.length_nil] at this
  omega
/-- What a text that is read comes to. -/
theorem snP_no {p : PD} {t : List UInt8} (h : ∀ a, kpRun p.code.length p.wires.length KA.none (linesB t) = some a → a.i ≠ 1 + p.code.length + p.wires.length) : snP p t = (newK p, 2) := by
  rw [snP_byline]
  split
  · rfl
  · rename_i a ha
    rw [if_neg (h a ha)]
theorem snP_yes {p : PD} {t : List UInt8} {a : KA} (h : kpRun p.code.length p.wires.length KA.none (linesB t) = some a) (hi : a.i = 1 + p.code.length + p.wires.length) : snP p t = if snBad p ⟨a.rs, lnsOf p.wires a.zs, a.t⟩ = true then (newK p, 1) else (⟨a.rs, lnsOf p.wires a.zs, a.t⟩, 0) := by
  rw [snP_byline, h]
  simp only
  rw [if_pos hi]
  rfl
section
variable (p : PD) (ca sa wa : Option Addr) (cc sc wc : Nat) (t : ByteArray) (W : World)
set_option maxRecDepth 1000000 in
set_option maxHeartbeats 8000000 in
theorem load_read (hF : Forms W) (hT : Tabs2 W) (hP : Pln W (.slice ca p.code.length cc) (.slice sa p.spans.length sc) (.slice wa p.wires.length wc) p) (hp : plchk p = 0) (hl : t.size ≤ 1099511627776) {a : KA} (hrun : kpRun p.code.length p.wires.length KA.none (linesB t.data.toList) = some a) (hi : a.i = 1 + p.code.length + p.wires.length) : Calls Tryz.prog 11 #[.agg #[.slice ca p.code.length cc, .int .i64 p.ticks, .slice sa p.spans.length sc, .slice wa p.wires.length wc], .string t] W fun e w' => (snBad p ⟨a.rs, lnsOf p.wires a.zs, a.t⟩ = true ∧ e = .returned (.tuple #[.pointer none, .iface 93 (.int .i64 1)]) ∧ Below W.heap.size W w') ∨ (snBad p ⟨a.rs, lnsOf p.wires a.zs, a.t⟩ = false ∧ ∃ kb a', e = .returned (.tuple #[.pointer (some ⟨kb, 0, none⟩), .nilIface]) ∧ GK w' W.heap.size p ⟨a.rs, lnsOf p.wires a.zs, a.t⟩ kb a' ∧ Below W.heap.size W w') := by
  have hx0 := Bx.first W (.slice ca p.code.length cc) p.ticks (.slice sa p.spans.length sc) (.slice wa p.wires.length wc)
  have hc5 : p.code.length ≤ 5 := (plchk_zero hp).1
  have hw12 : p.wires.length ≤ 12 := (wschk_ok (plchk_zero hp).2.2.2.1).1
  have haok := kpRun_ok (kaok_none _ _) hrun
  have hzl : a.zs.length = p.wires.length := by rw [haok.zs]; omega
  have hfew : ∀ z ∈ a.zs, z.1.length ≤ 2000000000000 := fun z hz => by
    have h1 := kpRun_few (n := t.size) (fun u hu => by have := lnB_short _ u hu; simpa using this) hrun z hz
    omega
  have hkok := kp_ok haok hi hfew
  have htm := haok.tm
  have HN : Hid (Calls Tryz.prog 9 #[.agg #[.slice ca p.code.length cc, .int .i64 p.ticks, .slice sa p.spans.length sc, .slice wa p.wires.length wc]] (W.alloc (.cells #[.slice ca p.code.length cc, .int .i64 p.ticks, .slice sa p.spans.length sc, .slice wa p.wires.length wc] 26)) fun e w' => ∃ kb aw, e = .returned (.tuple #[.pointer (some ⟨kb, 0, none⟩), .nilIface]) ∧ GK w' W.heap.size p (newK p) kb aw ∧ Bx W w' (.slice ca p.code.length cc) p.ticks (.slice sa p.spans.length sc) (.slice wa p.wires.length wc)) := by
    refine (gnew_ok p _ _ _ _ (hF.all hx0.below) (hP.all hx0.below) hp).mono ?_
    rintro e w' ⟨kb, aw, rfl, hg, hb⟩
    exact ⟨kb, aw, rfl, hg.lower (by simp), hx0.step hb⟩
  have HR : Hid (∀ W', Below W.heap.size W W' → Calls Tryz.prog 43 #[.string t, .int .i64 p.code.length, .int .i64 p.wires.length] W' fun e w' => ∃ ra rc va vc n us base b, e = .returned (.tuple #[.agg #[.int .i64 a.t, .slice ra a.rs.length rc, .slice va n vc], .bool true]) ∧ W'.heap.size ≤ base ∧ KpB w' base b a.t (.slice ra a.rs.length rc) (.slice va n vc) a.rs us a.zs ∧ Below W'.heap.size W' w') := fun W' hb => by
    refine (snread_any t _ _ hc5 hw12 W' (hT.all hb) hl).mono ?_
    rintro e w' ⟨h0, ⟨a2, vr, vw, us, base, b, h1, h2, he, h4, h5⟩ | ⟨h1, _⟩⟩
    · rw [hrun] at h1
      obtain rfl := Option.some.inj h1
      obtain ⟨ra, rc, rfl⟩ := sl_form h5.rr
      obtain ⟨va, vc, rfl⟩ := sl_form h5.wr
      exact ⟨ra, rc, va, vc, _, us, base, b, he, h4, h5, h0⟩
    · exact absurd hi (h1 a hrun)
  have HL : Hid (∀ (w1 w2 : World) (kb : Nat) (aw : GW) (ra va : Option Addr) (rc vc n : Nat) (us : List (Value × Int)) (base b : Nat), Below W.heap.size W w1 → GK w1 W.heap.size p (newK p) kb aw → w1.heap.size ≤ base → Below w1.heap.size w1 w2 → KpB w2 base b a.t (.slice ra a.rs.length rc) (.slice va n vc) a.rs us a.zs → Calls Tryz.prog 44 #[.agg #[.int .i64 a.t, .slice ra a.rs.length rc, .slice va n vc], .pointer (some ⟨kb, 0, none⟩)] w2 fun e w' => (snBad p ⟨a.rs, lnsOf p.wires a.zs, a.t⟩ = true ∧ e = .returned (.iface 93 (.int .i64 1)) ∧ Below W.heap.size W w') ∨ (snBad p ⟨a.rs, lnsOf p.wires a.zs, a.t⟩ = false ∧ e = .returned .nilIface ∧ (∃ a', GK w' W.heap.size p ⟨a.rs, lnsOf p.wires a.zs, a.t⟩ kb a') ∧ Below W.heap.size W w')) := fun w1 w2 kb aw ra va rc vc n us base b hb1 hg hbase hb2 hkp => by
    have hbW : Below W.heap.size W w2 := hb1.trans (hb2.mono hb1.size)
    have hg2 := hg.all hb2
    refine (lay_any p kb W.heap.size base aw a.rs (lnsOf p.wires a.zs) us a.t _ _ w2 (fun W' h => hF.all (hbW.trans h)) hp hg2 hbW.size (fun g hg' => by have := hg.flt g hg'; omega) (kps_of hkp hzl) hkok htm).mono ?_
    rintro e w' ⟨rfl, ht, hq⟩
    have hbe : Below W.heap.size W w' := hbW.trans (ht.below hg2.ge hbW.size)
    cases hbad : snBad p ⟨a.rs, lnsOf p.wires a.zs, a.t⟩ with
    | true => exact Or.inl ⟨rfl, rfl, hbe⟩
    | false =>
      obtain ⟨a', h1, _⟩ := hq hbad
      exact Or.inr ⟨rfl, rfl, ⟨a', h1⟩, hbe⟩
  have k0 := hx0.c0
  have k1 := hx0.c1
  have k2 := hx0.c2
  have k3 := hx0.c3
  obtain ⟨z, hz⟩ : ∃ z, snBad p ⟨a.rs, lnsOf p.wires a.zs, a.t⟩ = z := ⟨_, rfl⟩
  rw [hz] at HL ⊢
  clear hP hF hT hp hrun hi hx0 haok hzl hfew hkok htm hz
  cases z
  · go_enter Tryz.func11, Tryz.ntmps11
    go_wp2_with (first
      | (go_at_call 9; refine HN.out.mono ?_; rintro e w1 ⟨kb, aw, rfl, hg1, b1⟩; have y0 := b1.c0; have y3 := b1.c3; have bb1 := b1.below)
      | (go_at_call 43; refine (HR.out _ bb1).mono ?_; rintro e w2 ⟨ra, rc, va, vc, n, us, base, b, rfl, hbs, hkp, b2⟩; have b3 := b2.alloc b2.size (.cells #[.int .i64 a.t, .slice ra a.rs.length rc, .slice va n vc] 103); have hkp3 := hkp.below ((Below.refl _ w2).alloc (Nat.le_refl _) (.cells #[.int .i64 a.t, .slice ra a.rs.length rc, .slice va n vc] 103)))
      | (go_at_call 44; refine (HL.out w1 _ kb aw ra va rc vc n us base b bb1 hg1 hbs b3 hkp3).mono ?_; rintro e w4 (⟨h, _⟩ | ⟨_, rfl, ⟨a', hg4⟩, b4⟩); (cases h)))
    go_ret2
    exact Or.inr ⟨by trivial, kb, a', rfl, hg4, b4⟩
  · go_enter Tryz.func11, Tryz.ntmps11
    go_wp2_with (first
      | (go_at_call 9; refine HN.out.mono ?_; rintro e w1 ⟨kb, aw, rfl, hg1, b1⟩; have y0 := b1.c0; have y3 := b1.c3; have bb1 := b1.below)
      | (go_at_call 43; refine (HR.out _ bb1).mono ?_; rintro e w2 ⟨ra, rc, va, vc, n, us, base, b, rfl, hbs, hkp, b2⟩; have b3 := b2.alloc b2.size (.cells #[.int .i64 a.t, .slice ra a.rs.length rc, .slice va n vc] 103); have hkp3 := hkp.below ((Below.refl _ w2).alloc (Nat.le_refl _) (.cells #[.int .i64 a.t, .slice ra a.rs.length rc, .slice va n vc] 103)))
      | (go_at_call 44; refine (HL.out w1 _ kb aw ra va rc vc n us base b bb1 hg1 hbs b3 hkp3).mono ?_; rintro e w4 (⟨_, rfl, b4⟩ | ⟨h, _⟩); rotate_left; (cases h)))
    go_ret2
    exact Or.inl ⟨by trivial, rfl, b4⟩
end
theorem snp_load {G : World → Prop} (hG : ∀ w, G w → Forms w) (hT : ∀ w, G w → Tabs2 w) (hall : ∀ w w', G w → Below w.heap.size w w' → G w') : SnpLoad (gker hG hall) := by
  intro p vc vs vw t W hGW hP hl he
  obtain ⟨ca, cc, rfl⟩ := hP.code.form
  obtain ⟨sa, sc, rfl⟩ := hP.spans.form
  obtain ⟨wa, wc, rfl⟩ := hP.wires.form
  by_cases hp : plchk p = 0
  · rw [snE_ok hp] at he
    unfold plV
    by_cases hn : ∀ a, kpRun p.code.length p.wires.length KA.none (linesB t.data.toList) = some a → a.i ≠ 1 + p.code.length + p.wires.length
    · rw [snP_no hn] at he
      cases he
    · obtain ⟨a, hn⟩ := Classical.not_forall.1 hn
      obtain ⟨hrun, hi⟩ := Classical.not_imp.1 hn
      have hi := Classical.not_not.1 hi
      refine (load_read p ca sa wa cc sc wc t W (hG W hGW) (hT W hGW) hP hp hl hrun hi).mono ?_
      rw [snP_yes hrun hi] at he ⊢
      rintro e w' (⟨hb, _⟩ | ⟨hb, kb, a', rfl, hg, hbe⟩)
      · rw [if_pos hb] at he
        cases he
      · rw [if_neg (by rw [hb]; decide)]
        exact ⟨kb, _, rfl, a', hg, rfl, hbe⟩
  · rw [snE_no hp] at he
    exact absurd he hp
end Go.Proofs.YtajfgmlockjmhaiGreatDoor
