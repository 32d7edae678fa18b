/-
  GPut, GStep: joined into one text.
-/
import Derived.Test.YtajfgmlockjmhaiGreatDoorJt18
import Derived.Test.YtajfgmlockjmhaiGreatDoorJt12
import Derived.Test.YtajfgmlockjmhaiGreatDoorJt1
import Derived.Test.YtajfgmlockjmhaiGreatDoorJt19
import Derived.Test.YtajfgmlockjmhaiGreatDoorRoomStep4
namespace Go.Proofs.YtajfgmlockjmhaiGreatDoor
open Go.RowKit

set_option maxRecDepth 100000 in
set_option maxHeartbeats 8000000 in
theorem gput_ok (p : PD) (k : KD) (kb base : Nat) (a : GW) (r : Nat) (s' : St) (w : World) (hfm : Forms w) (h : GK w base p k kb a) (hp : plchk p = 0) (hk : KOk p k) (hr : r < p.code.length) (hs : ∀ c, p.code[r]? = some c → stOk s' c.length = true) :
    Calls Tryz.prog 77 #[.pointer (some ⟨kb, 0, none⟩), .int .i64 r, stA s'] w fun e w' => e = .returned .nilIface ∧ GK w' base p ⟨k.rooms.set r s', k.lines, k.time⟩ kb a ∧ KTouch [a.rb] w w' := by
  have hcz := (plchk_zero hp).2.2.2.2.2.2.1
  have hrk : k.rooms.length = p.code.length := hk.rl
  have hcd := h.src.here.1
  obtain ⟨ca, cc, hcv⟩ := hcd.form
  rw [hcv] at hcd
  obtain ⟨cb, co, ua, un, ug, c, rfl, hclt, hcy, hcc, rfl, hops⟩ := hcd.at hr
  have hrc : rchk c s' = 0 := by
    unfold rchk
    rw [if_pos (codesE_zero hcz c (List.mem_of_getElem? hcy)), if_pos (hs c hcy)]
  have HC : Hid (∀ W, Below w.heap.size w W → Calls Tryz.prog 115 #[.slice ua c.length ug, .agg #[.int .i64 s'.p, .int .i64 (s'.c 0), .int .i64 (s'.c 1), .int .i64 (s'.c 2), .int .i64 (s'.c 3), .int .i64 (s'.c 4), .int .i64 (s'.c 5), .bool s'.f]] W fun e w' => e = .returned .nilIface ∧ Below W.heap.size W w') := fun W hb => by
    have := rcheck_any c (.slice ua c.length ug) s' W (hfm.all hb) (hops.all hb)
    rw [hrc] at this
    exact this
  have hkb := h.lt.1
  have c0 := h.c0
  rw [hcv] at c0
  have c3 := h.c3
  rw [hrk] at c3
  have hri : (r : Int) < (p.code.length : Int) := by omega
  obtain ⟨s, hsr⟩ : ∃ s, k.rooms[r]? = some s := ⟨_, List.getElem?_eq_getElem (by omega)⟩
  have H : Hid (GK w base p k kb a) := h
  have HSR : Hid (k.rooms[r]? = some s) := hsr
  have hA : Below w.heap.size w (w.alloc (.cells #[.int .i64 s'.p, .int .i64 (s'.c 0), .int .i64 (s'.c 1), .int .i64 (s'.c 2), .int .i64 (s'.c 3), .int .i64 (s'.c 4), .int .i64 (s'.c 5), .bool s'.f] 73)) := (Below.refl _ _).alloc (Nat.le_refl _) _
  have hB : StB (w.alloc (.cells #[.int .i64 s'.p, .int .i64 (s'.c 0), .int .i64 (s'.c 1), .int .i64 (s'.c 2), .int .i64 (s'.c 3), .int .i64 (s'.c 4), .int .i64 (s'.c 5), .bool s'.f] 73)) w.heap.size s' := World.alloc_heap_new _ _
  have hnk := World.new_ne w ⟨kb, 3, none⟩ c3
  unfold stA
  clear h hs hcd hops hcy hrc hsr hcv hcz hk hfm
  go_enter Tryz.func77, Tryz.ntmps77
  go_upto_region 3 with (go_at_call 60; refine (kbelow_yes _ _ _ (by omega) hri).mono ?_; rintro e w1 ⟨rfl, hw1⟩; subst hw1)
  generalize w.alloc (.cells #[.int .i64 s'.p, .int .i64 (s'.c 0), .int .i64 (s'.c 1), .int .i64 (s'.c 2), .int .i64 (s'.c 3), .int .i64 (s'.c 4), .int .i64 (s'.c 5), .bool s'.f] 73) = W0 at hA hB ⊢
  have k0 : W0.cell? ⟨kb, 0, none⟩ = some (.slice (some ⟨cb, co, none⟩) p.code.length cc) := (hA.cell (p := ⟨kb, 0, none⟩) hkb).trans c0
  have k1 : W0.cell? ⟨cb, co + r, none⟩ = some (.slice ua c.length ug) := (hA.cell (p := ⟨cb, co + r, none⟩) hclt).trans hcc
  obtain ⟨n0, n1, n2, n3, n4, n5, n6, n7⟩ := hB.cs
  simp only [Nat.zero_add] at n1 n2 n3 n4 n5 n6 n7
  have bQ : Below w.heap.size w W0.drew := hA.drew
  go_cut [7] from 17 to 25 (fun s7 wx => s7 = .nilIface ∧ Below W0.heap.size W0 wx)
  case first =>
    go_region_with (go_at_call 115; refine (HC.out _ bQ).mono ?_; rintro e w1 ⟨rfl, b1⟩)
    all_goals
      go_wp2_with fail
      go_meet
      case rel => exact ⟨rfl, (Below.refl _ W0).drew.trans (b1.mono (Nat.le_refl _))⟩
  case rest =>
  obtain ⟨rfl, hb2⟩ := hcut
  have hb3 : Below w.heap.size w wc := hA.trans (hb2.mono hA.size)
  have hB3 : StB wc w.heap.size s' := (hb2.block _ (Array.getElem?_eq_some_iff.1 hB).1).trans hB
  clear n0 n1 n2 n3 n4 n5 n6 n7 k0 k1 hB hA hb2 bQ HC
  generalize wc = W3 at *
  obtain ⟨n0, n1, n2, n3, n4, n5, n6, n7⟩ := hB3.cs
  simp only [Nat.zero_add] at n1 n2 n3 n4 n5 n6 n7
  have D := H.out.all hb3
  have k3 := D.c3
  rw [hrk] at k3
  have hth : ∀ nq, (W3.drewN nq).there a.rb (r * 8) 8 := fun nq => there_st (D.rooms r s HSR.out) D.rf nq
  go_upto_region 6 with fail
  go_cut [29] from 29 to 35 (fun _ wx => ∃ nq, wx = setSt (W3.drewN nq) a.rb (r * 8) s')
  case first =>
    refine wp_region_quiet_last (by kernel_rfl) rfl (by decide +kernel) (by decide +kernel) ?_
    simp only [List.dropLast_cons_cons, List.dropLast_singleton]
    repeat (go_big_quiet_step (fail))
    refine wpQuiet_nil ?_
    intro _ hw'
    obtain ⟨nq, hw''⟩ := hw'
    subst hw''
    refine wp_store_mid _ _ _ rfl a.rb (r * 8) _ rfl rfl (hth nq) rfl (by simp [Value.oneCell']) ?_
    go_wp2_with fail
    go_meet
    case rel => exact ⟨nq, rfl⟩
  case rest =>
  obtain ⟨nq, hwx⟩ := hcut
  have bN : Below W3.heap.size W3 (W3.drewN nq) := below_dN (Below.refl _ _) nq
  have D9 := (D.all bN).set HSR.out s'
  have tk9 : KTouch [a.rb] W3 (setSt (W3.drewN nq) a.rb (r * 8) s') := (KTouch.of bN).trans (setSt_touch _ (by simp) _ _)
  rw [← hwx] at D9 tk9
  have tkw : KTouch [a.rb] w wc := (KTouch.of hb3).trans tk9
  clear hwx
  go_wp2
  go_ret
  exact ⟨rfl, D9, tkw⟩
end Go.Proofs.YtajfgmlockjmhaiGreatDoor
namespace Go.Proofs.YtajfgmlockjmhaiGreatDoor
open Go.RowKit

/-- What is there to be taken, if it is offered. -/
theorem off_ok {p : PD} {k : KD} (hp : plchk p = 0) (hk : KOk p k) {r : Nat} {c : List O3} {s : St} {o : O3} (h : Turn p k r c s o) : (offG k o).2 = true → 0 ≤ (offG k o).1 ∧ (offG k o).1 ≤ 999 := by
  unfold offG
  split
  · rename_i ht
    obtain ⟨x, hx, _⟩ := (op_wire hp h.hc (List.mem_of_getElem? h.ho)).2 ht
    have hlt : o.2.2.toNat < k.lines.length := by rw [hk.ll]; exact (List.getElem?_eq_some_iff.1 hx).1
    have hl : k.lines[o.2.2.toNat]? = some k.lines[o.2.2.toNat] := List.getElem?_eq_getElem hlt
    have e : lineAt k o = k.lines[o.2.2.toNat] := by simp [lineAt, List.getD, hl]
    rw [e]
    exact headL_ok (hk.lines _ _ _ hl hx)
  · intro hh; cases hh
/-- The wire of an op that takes or sends. -/
theorem port_line {p : PD} {k : KD} (hp : plchk p = 0) (hk : KOk p k) {r : Nat} {c : List O3} {s : St} {o : O3} (h : Turn p k r c s o) (ho : o.1 = 8 ∨ o.1 = 9) : ∃ (n : Nat) (l : LnD), o.2.2 = (n : Int) ∧ k.lines[n]? = some l ∧ ((l.w.2.2.1 = 1 ∧ l.w.2.2.2 = 1) ∨ l.w.2.2.1 = 2) ∧ 0 ≤ l.ls ∧ l.ls ≤ k.time + 10000000 ∧ l.xs.length ≤ 1000000 := by
  have hx : ∃ x, p.wires[o.2.2.toNat]? = some x := by
    rcases ho with h8 | h9
    · obtain ⟨x, hx, _⟩ := (op_wire hp h.hc (List.mem_of_getElem? h.ho)).1 h8
      exact ⟨x, hx⟩
    · obtain ⟨x, hx, _⟩ := (op_wire hp h.hc (List.mem_of_getElem? h.ho)).2 h9
      exact ⟨x, hx⟩
  obtain ⟨x, hx⟩ := hx
  have hlt : o.2.2.toNat < k.lines.length := by rw [hk.ll]; exact (List.getElem?_eq_some_iff.1 hx).1
  have hl : k.lines[o.2.2.toNat]? = some k.lines[o.2.2.toNat] := List.getElem?_eq_getElem hlt
  have hlo := hk.lines _ _ _ hl hx
  have hkx := wchk_kind ((wschk_ok (plchk_zero hp).2.2.2.1).2 x (List.mem_of_getElem? hx))
  refine ⟨o.2.2.toNat, _, by have := (ok3_range h.ok).2.2.2.2.1; omega, hl, ?_, hlo.ls, hk.lost _ (List.mem_of_getElem? hl), ?_⟩
  · rw [hlo.w]
    rcases hkx with ⟨h1, h2⟩ | ⟨h1, _⟩
    · exact Or.inl ⟨h1, h2⟩
    · exact Or.inr h1
  · rcases hkx with ⟨h1, _⟩ | ⟨h1, h2, h3⟩
    · have := hlo.one h1
      omega
    · have := hlo.deep h1
      omega
set_option maxRecDepth 100000 in
set_option maxHeartbeats 8000000 in
theorem gstep_any (p : PD) (k : KD) (kb base : Nat) (a : GW) (r : Nat) (w : World) (hfm : Forms w) (h : GK w base p k kb a) (hbw : base ≤ w.heap.size) (hp : plchk p = 0) (hk : KOk p k) (ht : k.time < 100000000) (hr : r < p.code.length) :
    Calls Tryz.prog 46 #[.pointer (some ⟨kb, 0, none⟩), .int .i64 r] w fun e w' => e = .returned (.int .i64 (turnK p k r).2.2) ∧ ∃ a', GK w' base p ⟨(turnK p k r).1.rooms, (turnK p k r).1.lines, k.time⟩ kb a' ∧ KTouch (a.F kb) w w' ∧ ∀ g ∈ a'.F kb, g ∈ a.F kb ∨ w.heap.size ≤ g := by
  obtain ⟨c, s, o, htn⟩ := turn_of hp hk hr
  have HTN : Hid (Turn p k r c s o) := htn
  have H : Hid (GK w base p k kb a) := h
  have hcd := h.src.here.1
  obtain ⟨ca, cc, hcv⟩ := hcd.form
  rw [hcv] at hcd
  obtain ⟨cb, co, u, n, g, c', rfl, hclt, hcy, hcc, rfl, hops⟩ := hcd.at hr
  obtain rfl : c = c' := by
    rw [htn.hc] at hcy
    exact Option.some.inj hcy
  obtain ⟨pn, hpn⟩ : ∃ n : Nat, s.p = n := ⟨s.p.toNat, by have := (stOk_iff.1 htn.st).1; omega⟩
  have hpl : pn < c.length := by have := (stOk_iff.1 htn.st).2.1; omega
  have hpi : (pn : Int) < (c.length : Int) := by omega
  have hoc : c[pn]? = some o := by
    have := htn.ho
    rw [hpn] at this
    simpa using this
  obtain ⟨ob, oo, ocap, hoe, holt, hoce⟩ : ∃ b off cap, (Value.slice u c.length g) = .slice (some ⟨b, off, none⟩) c.length cap ∧ b < w.heap.size ∧ ∀ (i : Nat) o, c[i]? = some o → w.cell? ⟨b, off + i * 3, none⟩ = some (.int .i64 o.1) ∧ w.cell? ⟨b, off + i * 3 + 1, none⟩ = some (.int .i64 o.2.1) ∧ w.cell? ⟨b, off + i * 3 + 2, none⟩ = some (.int .i64 o.2.2) := by
    rcases hops with ⟨h0, _⟩ | h1
    · rw [h0] at hpl
      simp at hpl
    · exact h1
  injection hoe with hoe1 hoe2 hoe3
  subst hoe1
  clear hoe2 hoe3
  obtain ⟨o0, o1, o2⟩ := hoce pn o hoc
  have HG : Hid (∀ W, Below w.heap.size w W → ∀ g0 g1, (g1 = true → 0 ≤ g0 ∧ g0 ≤ 999) → Calls Tryz.prog 82 #[.slice (some ⟨ob, oo, none⟩) c.length g, .agg #[.int .i64 pn, .int .i64 (s.c 0), .int .i64 (s.c 1), .int .i64 (s.c 2), .int .i64 (s.c 3), .int .i64 (s.c 4), .int .i64 (s.c 5), .bool s.f], .int .i64 g0, .bool g1] W fun e w' => ∃ s', Hid (s' = stepF o s c.length g0 g1) ∧ e = .returned (.tuple #[.agg #[.int .i64 s'.p, .int .i64 (s'.c 0), .int .i64 (s'.c 1), .int .i64 (s'.c 2), .int .i64 (s'.c 3), .int .i64 (s'.c 4), .int .i64 (s'.c 5), .bool s'.f], .int .i64 (sendF o s), .nilIface]) ∧ Below W.heap.size W w') := fun W hb g0 g1 hg => by
    have h1 := rstep_any c (.slice (some ⟨ob, oo, none⟩) c.length g) s g0 g1 W (hfm.all hb) (hops.all hb)
    have h2 : gchk c s g0 g1 = 0 := by
      unfold gchk rchk
      rw [if_pos htn.ck, if_pos htn.st, if_pos rfl, if_neg (fun hn => by have := hg hn.1; omega)]
    have hod : c.getD s.p.toNat (0, 0, 0) = o := by simp [List.getD, htn.ho]
    unfold stepT at h1
    rw [if_pos h2, hod] at h1
    rw [← hpn]
    refine h1.mono ?_
    rintro e w' ⟨rfl, hb'⟩
    exact ⟨_, rfl, rfl, hb'⟩
  have hrk : k.rooms.length = p.code.length := hk.rl
  have hri : (r : Int) < (p.code.length : Int) := by omega
  obtain ⟨s0, s1, s2, s3, s4, s5, s6, s7⟩ := h.rooms r s htn.hs
  rw [hpn] at s0
  have k0 := h.c0
  have k3 := h.c3
  rw [hcv] at k0
  rw [hrk] at k3
  have hn0 := World.new_ne w ⟨kb, 0, none⟩ k0
  have hnr := World.new_ne w ⟨a.rb, _, none⟩ s0
  have hncb := World.new_ne w ⟨cb, _, none⟩ hcc
  have HF : Hid (∀ g ∈ a.F kb, g < w.heap.size) := h.flt
  clear h hops hoce hcd hcv hcy htn
  go_enter Tryz.func46, Tryz.ntmps46
  go_upto_region 1 with fail
  go_cut [5, 6] from 13 to 26 (fun s5 s6 wx => s5 = .slice (some ⟨ob, oo, none⟩) c.length g ∧ s6 = .pointer (some ⟨w.heap.size, 0, none⟩) ∧ StB wx w.heap.size s ∧ Below w.heap.size w wx)
  case first =>
    go_region_held3 (fun w' => (w'.cell? ⟨kb, 0, none⟩ = some (.slice (some ⟨cb, co, none⟩) p.code.length cc) ∧ w'.cell? ⟨kb, 3, none⟩ = some (.slice (some ⟨a.rb, 0, none⟩) p.code.length a.rcap) ∧ w'.cell? ⟨cb, co + r, none⟩ = some (.slice (some ⟨ob, oo, none⟩) c.length g)) ∧ (w'.cell? ⟨a.rb, r * 8, none⟩ = some (.int .i64 pn) ∧ w'.cell? ⟨a.rb, r * 8 + 1, none⟩ = some (.int .i64 (s.c 0)) ∧ w'.cell? ⟨a.rb, r * 8 + 2, none⟩ = some (.int .i64 (s.c 1)) ∧ w'.cell? ⟨a.rb, r * 8 + 3, none⟩ = some (.int .i64 (s.c 2))) ∧ (w'.cell? ⟨a.rb, r * 8 + 4, none⟩ = some (.int .i64 (s.c 3)) ∧ w'.cell? ⟨a.rb, r * 8 + 5, none⟩ = some (.int .i64 (s.c 4)) ∧ w'.cell? ⟨a.rb, r * 8 + 6, none⟩ = some (.int .i64 (s.c 5)) ∧ w'.cell? ⟨a.rb, r * 8 + 7, none⟩ = some (.bool s.f)))
      (first | exact ⟨⟨k0, k3, hcc⟩, ⟨s0, s1, s2, s3⟩, s4, s5, s6, s7⟩ | go_keep)
      (fail)
    go_wp2_with fail
    go_meet
    case rel => exact ⟨rfl, rfl, by rw [StB, hpn]; exact World.alloc_heap_new w _, ((Below.refl _ w).alloc (Nat.le_refl _) _).drew⟩
  case rest =>
  obtain ⟨rfl, rfl, hsb, hbc⟩ := hcut
  clear s0 s1 s2 s3 s4 s5 s6 s7 k0 k3 hn0 hnr hncb hcc
  replace o0 := (hbc.cell (p := ⟨ob, _, none⟩) holt).trans o0
  replace o1 := (hbc.cell (p := ⟨ob, _, none⟩) holt).trans o1
  replace o2 := (hbc.cell (p := ⟨ob, _, none⟩) holt).trans o2
  obtain ⟨s0, s1, s2, s3, s4, s5, s6, s7⟩ := hsb.cs
  simp only [Nat.zero_add] at s1 s2 s3 s4 s5 s6 s7
  rw [hpn] at s0
  go_upto_region 3 with fail
  have bA : Below wc.heap.size wc (wc.alloc (.cells #[.int .i64 o.1, .int .i64 o.2.1, .int .i64 o.2.2] 28)) := (Below.refl _ _).alloc (Nat.le_refl _) _
  have hob6 : (wc.alloc (.cells #[.int .i64 o.1, .int .i64 o.2.1, .int .i64 o.2.2] 28)).heap[wc.heap.size]? = some (.cells #[.int .i64 o.1, .int .i64 o.2.1, .int .i64 o.2.2] 28 (0, 0)) := World.alloc_heap_new _ _
  have hb6 : Below w.heap.size w (wc.alloc (.cells #[.int .i64 o.1, .int .i64 o.2.1, .int .i64 o.2.2] 28)) := hbc.trans (bA.mono hbc.size)
  have hsb6 : StB (wc.alloc (.cells #[.int .i64 o.1, .int .i64 o.2.1, .int .i64 o.2.2] 28)) w.heap.size s := (bA.block _ (Array.getElem?_eq_some_iff.1 hsb).1).trans hsb
  have hb2 : w.heap.size ≤ wc.heap.size := hbc.size
  clear s0 s1 s2 s3 s4 s5 s6 s7 o0 o1 o2 bA hsb hbc
  generalize wc.alloc (.cells #[.int .i64 o.1, .int .i64 o.2.1, .int .i64 o.2.2] 28) = W6 at hob6 hb6 hsb6 ⊢
  generalize wc.heap.size = b2 at hob6 hb2 ⊢
  have hocs : W6.cell? ⟨b2, 0, none⟩ = some (.int .i64 o.1) ∧ W6.cell? ⟨b2, 1, none⟩ = some (.int .i64 o.2.1) ∧ W6.cell? ⟨b2, 2, none⟩ = some (.int .i64 o.2.2) := by simp [World.cell?, hob6]
  obtain ⟨o0, o1, o2⟩ := hocs
  have HO : Hid (Calls Tryz.prog 81 #[.pointer (some ⟨kb, 0, none⟩), .agg #[.int .i64 o.1, .int .i64 o.2.1, .int .i64 o.2.2]] W6 fun e w' => e = .returned (.tuple #[.int .i64 (offG k o).1, .bool (offG k o).2]) ∧ Below W6.heap.size W6 w') := by
    by_cases h9 : o.1 = 9
    · obtain ⟨bn, l, hbn, hl, _⟩ := port_line hp hk HTN.out (Or.inr h9)
      have e : offG k o = headL l := by
        unfold offG lineAt
        rw [if_pos h9, hbn, Int.toNat_natCast]
        simp [List.getD, hl]
      rw [e, h9, hbn]
      exact goff_yes p k kb base a o.2.1 bn l W6 (H.out.all hb6) hl
    · have e : offG k o = (0, false) := by
        unfold offG
        rw [if_neg h9]
      rw [e]
      exact goff_no kb _ _ _ W6 h9
  have hgo := off_ok hp hk HTN.out
  obtain ⟨g0, hg0⟩ : ∃ x, (offG k o).1 = x := ⟨_, rfl⟩
  obtain ⟨g1, hg1⟩ : ∃ x, (offG k o).2 = x := ⟨_, rfl⟩
  rw [hg0, hg1] at HO hgo
  go_upto_region 4 with (go_at_call 81; refine HO.out.mono ?_; rintro e w7 ⟨rfl, b7⟩)
  have hb7 := hb6.trans (b7.mono hb6.size)
  have hsb7 : StB w7 w.heap.size s := (b7.block _ (Array.getElem?_eq_some_iff.1 hsb6).1).trans hsb6
  have hob7 := (b7.block _ (Array.getElem?_eq_some_iff.1 hob6).1).trans hob6
  clear o0 o1 o2 hob6 hsb6 b7 HO hb6
  obtain ⟨s0, s1, s2, s3, s4, s5, s6, s7⟩ := hsb7.cs
  simp only [Nat.zero_add] at s1 s2 s3 s4 s5 s6 s7
  rw [hpn] at s0
  go_upto_region 7 with (go_at_call 82; refine (HG.out w7 hb7 g0 g1 hgo).mono ?_; rintro e w1 ⟨s', hs', rfl, b1⟩)
  have bA : Below w1.heap.size w1 (w1.alloc (.cells #[.int .i64 s'.p, .int .i64 (s'.c 0), .int .i64 (s'.c 1), .int .i64 (s'.c 2), .int .i64 (s'.c 3), .int .i64 (s'.c 4), .int .i64 (s'.c 5), .bool s'.f] 73)) := (Below.refl _ _).alloc (Nat.le_refl _) _
  have bB := b1.trans (bA.mono b1.size)
  have hb8 := hb7.trans (bB.mono hb7.size)
  have hsb8 : StB _ w.heap.size s := (bB.block _ (Array.getElem?_eq_some_iff.1 hsb7).1).trans hsb7
  have hob8 := (bB.block _ (Array.getElem?_eq_some_iff.1 hob7).1).trans hob7
  have hn8 : StB (w1.alloc (.cells #[.int .i64 s'.p, .int .i64 (s'.c 0), .int .i64 (s'.c 1), .int .i64 (s'.c 2), .int .i64 (s'.c 3), .int .i64 (s'.c 4), .int .i64 (s'.c 5), .bool s'.f] 73)) w1.heap.size s' := World.alloc_heap_new _ _
  have hnb : w.heap.size ≤ w1.heap.size := Nat.le_trans hb7.size b1.size
  clear s0 s1 s2 s3 s4 s5 s6 s7 bA bB b1 hb7 hsb7 hob7 HG
  generalize w1.alloc (.cells #[.int .i64 s'.p, .int .i64 (s'.c 0), .int .i64 (s'.c 1), .int .i64 (s'.c 2), .int .i64 (s'.c 3), .int .i64 (s'.c 4), .int .i64 (s'.c 5), .bool s'.f] 73) = W8 at hb8 hsb8 hob8 hn8 ⊢
  generalize w1.heap.size = nb at hn8 hnb ⊢
  obtain ⟨n0, n1, n2, n3, n4, n5, n6, n7⟩ := hn8.cs
  simp only [Nat.zero_add] at n1 n2 n3 n4 n5 n6 n7
  have D8 := H.out.all hb8
  have k3 := D8.c3
  rw [hrk] at k3
  have hth : ∀ nq, (W8.drewN nq).there a.rb (r * 8) 8 := fun nq => there_st (D8.rooms r s HTN.out.hs) D8.rf nq
  go_cut [49] from 49 to 55 (fun _ wx => ∃ nq, wx = setSt (W8.drewN nq) a.rb (r * 8) s')
  case first =>
    refine wp_region_quiet_last (by kernel_rfl) rfl (by decide +kernel) (by decide +kernel) ?_
    simp only [List.dropLast_cons_cons, List.dropLast_singleton]
    repeat (go_big_quiet_step (fail))
    refine wpQuiet_nil ?_
    intro _ hw'
    obtain ⟨nq, hw''⟩ := hw'
    subst hw''
    refine wp_store_mid _ _ _ rfl a.rb (r * 8) _ rfl rfl (hth nq) rfl (by simp [Value.oneCell']) ?_
    go_wp2_with fail
    go_meet
    case rel => exact ⟨nq, rfl⟩
  case rest =>
  obtain ⟨nq, hwx⟩ := hcut
  have bN : Below W8.heap.size W8 (W8.drewN nq) := below_dN (Below.refl _ _) nq
  have D9 := (D8.all bN).set HTN.out.hs s'
  have hrm : a.rb ∈ a.F kb := by simp [GW.F]
  have tk9 : KTouch [a.rb] W8 (setSt (W8.drewN nq) a.rb (r * 8) s') := (KTouch.of bN).trans (setSt_touch _ (by simp) _ _)
  rw [← hwx] at D9 tk9
  have hnm : ∀ m, w.heap.size ≤ m → m ∉ [a.rb] := fun m h1 h2 => by
    rw [List.mem_singleton] at h2
    subst h2
    have := HF.out _ hrm
    omega
  have tk9w : KTouch (a.F kb) w wc := (KTouch.of hb8).trans (tk9.mono (by simp [GW.F]))
  have hsb9 : StB wc w.heap.size s := (tk9.block _ (Array.getElem?_eq_some_iff.1 hsb8).1 (hnm _ (Nat.le_refl _))).trans hsb8
  have hob9 := (tk9.block _ (Array.getElem?_eq_some_iff.1 hob8).1 (hnm _ hb2)).trans hob8
  have hn9 : StB wc nb s' := (tk9.block _ (Array.getElem?_eq_some_iff.1 hn8).1 (hnm _ hnb)).trans hn8
  have hbw9 : base ≤ wc.heap.size := Nat.le_trans hbw tk9w.size
  clear hwx bN tk9 D8 hb8 hsb8 hob8 hn8 n0 n1 n2 n3 n4 n5 n6 n7 k3 hth
  generalize wc = W9 at *
  obtain ⟨_, _, _, _, _, _, _, s7⟩ := hsb9.cs
  obtain ⟨_, _, _, _, _, _, _, n7⟩ := hn9.cs
  simp only [Nat.zero_add] at s7 n7
  have hocs : W9.cell? ⟨b2, 0, none⟩ = some (.int .i64 o.1) ∧ W9.cell? ⟨b2, 1, none⟩ = some (.int .i64 o.2.1) ∧ W9.cell? ⟨b2, 2, none⟩ = some (.int .i64 o.2.2) := by simp [World.cell?, hob9]
  obtain ⟨o0, o1, o2⟩ := hocs
  have hsf : s'.f = if s.f = true then true else decide (o.1 = 11) := by
    rw [hs'.out]
    unfold stepF
    cases hq : s.f <;> simp [hq]
  cases hsfe : s.f with
  | true =>
    have e9 := turn_failed HTN.out hsfe
    have hss : s' = s := by
      rw [hs'.out]
      unfold stepF
      rw [if_pos hsfe]
    rw [hss, set_same HTN.out.hs] at D9
    rw [hsfe] at s7
    have HE : Hid (turnK p k r = (⟨k.rooms, k.lines, k.time + 1⟩, s.p, 5)) := e9
    clear e9
    go_wp2
    go_ret
    rw [HE.out]
    exact ⟨rfl, a, D9, tk9w, fun g hg => Or.inl hg⟩
  | false =>
    rw [hsfe] at s7
    rw [hsfe, if_neg (by decide)] at hsf
    rw [hsf] at n7
    by_cases h9 : o.1 = 9
    · obtain ⟨bn, l, hbn, hl, hkd, hls0, hls1, hxl⟩ := port_line hp hk HTN.out (Or.inr h9)
      have eo : offG k o = headL l := by
        unfold offG lineAt
        rw [if_pos h9, hbn, Int.toNat_natCast]
        simp [List.getD, hl]
      have h11 : decide (o.1 = 11) = false := by rw [h9]; decide
      rw [h11] at n7
      rw [h9] at o0
      rw [hbn] at o2
      have hbt : o.2.2.toNat = bn := by rw [hbn]; simp
      cases hhd : (headL l).2 with
      | true =>
        have e9 := turn_takes HTN.out hsfe h9 (by rw [hbt]; exact hl) hhd
        have hst : s' = stepF o s c.length (headL l).1 true := by rw [hs'.out, ← hg0, ← hg1, eo, hhd]
        rw [hbt, ← hst] at e9
        have HE : Hid (turnK p k r = (⟨k.rooms.set r s', k.lines.set bn (restL l), k.time + 1⟩, s.p, 2)) := e9
        have HT : Hid (Calls Tryz.prog 83 #[.pointer (some ⟨kb, 0, none⟩), .int .i64 bn] W9 fun e w' => e = .returned (.int .i64 2) ∧ ∃ a', GK w' base p ⟨k.rooms.set r s', k.lines.set bn (restL l), k.time⟩ kb a' ∧ KTouch (a.F kb) W9 w' ∧ ∀ g ∈ a'.F kb, g ∈ a.F kb ∨ W9.heap.size ≤ g) := gtake_some p ⟨k.rooms.set r s', k.lines, k.time⟩ kb base a bn l W9 D9 hbw9 hl (hkd.imp And.left id) hhd
        clear e9 hst
        go_wp2_with (go_at_call 83; refine HT.out.mono ?_; rintro e w2 ⟨rfl, a', hq1, hq2, hq3⟩)
        go_ret
        rw [HE.out]
        exact ⟨rfl, a', hq1, tk9w.trans hq2, fun g hg => (hq3 g hg).imp id (fun h => Nat.le_trans tk9w.size h)⟩
      | false =>
        have e9 := turn_waits HTN.out hsfe h9 (by rw [hbt]; exact hl) hhd
        have hhz : (headL l).1 = 0 := by
          unfold headL at hhd ⊢
          split
          · rfl
          · rename_i hx
            rw [hx] at hhd
            cases hhd
        have hst : s' = stepF o s c.length 0 false := by rw [hs'.out, ← hg0, ← hg1, eo, hhd, hhz]
        rw [← hst] at e9
        have HE : Hid (turnK p k r = (⟨k.rooms.set r s', k.lines, k.time + 1⟩, s.p, 3)) := e9
        have HT : Hid (Calls Tryz.prog 83 #[.pointer (some ⟨kb, 0, none⟩), .int .i64 bn] W9 fun e w' => e = .returned (.int .i64 3) ∧ w' = W9) := gtake_none p ⟨k.rooms.set r s', k.lines, k.time⟩ kb base a bn l W9 D9 hl hhd
        clear e9 hst
        go_wp2_with (go_at_call 83; refine HT.out.mono ?_; rintro e w2 ⟨rfl, hw2⟩)
        go_ret
        rw [HE.out]
        exact ⟨rfl, a, D9, tk9w, fun g hg => Or.inl hg⟩
    · have h9' : (o.1 == 9) = false := by simpa using h9
      have eo : offG k o = (0, false) := by
        unfold offG
        rw [if_neg h9]
      have hst : s' = stepF o s c.length 0 false := by rw [hs'.out, ← hg0, ← hg1, eo]
      by_cases h8 : o.1 = 8
      · obtain ⟨bn, l, hbn, hl, hkd, hls0, hls1, hxl⟩ := port_line hp hk HTN.out (Or.inl h8)
        have h11 : decide (o.1 = 11) = false := by rw [h8]; decide
        rw [h11] at n7
        rw [hbn] at o2
        have hbt : o.2.2.toNat = bn := by rw [hbn]; simp
        have e9 := turn_sends HTN.out hsfe h8 (by rw [hbt]; exact hl)
        have hsn : sendF o s = s.c o.2.1.toNat := by
          unfold sendF sentF
          rw [hsfe, if_neg (by decide), if_pos h8]
        have hsr := sendK_range HTN.out
        have hx0 : 0 ≤ sendF o s := by
          rw [hsn]
          have hr := (ok3_range HTN.out.ok).2.2
          have hb := (bA_le o.1).2
          exact ((stOk_iff.1 HTN.out.st).2.2 o.2.1.toNat (by omega)).1
        rw [hbt, ← hst, ← hsn] at e9
        rw [h8] at o0
        have hsd := gsend_any p ⟨k.rooms.set r s', k.lines, k.time⟩ kb base a bn l (sendF o s) W9 D9 hbw9 hl hkd ⟨hx0, hsr.2.1⟩ ⟨hls0, by omega⟩ hxl
        generalize (if fitL l = true then (1 : Int) else 3) = qv at hsd e9
        have HE : Hid (turnK p k r = (⟨k.rooms.set r s', k.lines.set bn (putL l (sendF o s)), k.time + 1⟩, s.p, qv)) := e9
        have HT : Hid (Calls Tryz.prog 84 #[.pointer (some ⟨kb, 0, none⟩), .int .i64 bn, .int .i64 (sendF o s)] W9 fun e w' => e = .returned (.int .i64 qv) ∧ ∃ a', GK w' base p ⟨k.rooms.set r s', k.lines.set bn (putL l (sendF o s)), k.time⟩ kb a' ∧ KTouch (a.F kb) W9 w' ∧ ∀ g ∈ a'.F kb, g ∈ a.F kb ∨ W9.heap.size ≤ g) := hsd
        clear hsd
        clear e9 hst hsn
        go_wp2_with (go_at_call 84; refine HT.out.mono ?_; rintro e w2 ⟨rfl, a', hq1, hq2, hq3⟩)
        go_ret
        rw [HE.out]
        exact ⟨rfl, a', hq1, tk9w.trans hq2, fun g hg => (hq3 g hg).imp id (fun h => Nat.le_trans tk9w.size h)⟩
      · have h8' : (o.1 == 8) = false := by simpa using h8
        have e9 := turn_else HTN.out hsfe h8 h9
        rw [← hst] at e9
        have HE : Hid (turnK p k r = (⟨k.rooms.set r s', k.lines, k.time + 1⟩, s.p, if o.1 = 11 then 4 else 0)) := e9
        clear e9 hst
        by_cases h11 : o.1 = 11
        · have h11' : decide (o.1 = 11) = true := decide_eq_true h11
          rw [h11'] at n7
          go_wp2
          go_ret
          rw [HE.out, if_pos h11]
          exact ⟨rfl, a, D9, tk9w, fun g hg => Or.inl hg⟩
        · have h11' : decide (o.1 = 11) = false := decide_eq_false h11
          rw [h11'] at n7
          go_wp2
          go_ret
          rw [HE.out, if_neg h11]
          exact ⟨rfl, a, D9, tk9w, fun g hg => Or.inl hg⟩
end Go.Proofs.YtajfgmlockjmhaiGreatDoor
