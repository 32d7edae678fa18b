/-
  Laid2, SgtRunG, TopOne, NamesMath, BackMath, PlanBackM, NumMath: joined into one text.
-/
import Derived.Test.YtajfgmlockjmhaiGreatDoorJt4
import Derived.Lay
import Derived.Test.YtajfgmlockjmhaiGreatDoorJt3
import Derived.Test.YtajfgmlockjmhaiGreatDoorJt1
import Derived.Deep.RegionLaw
import Derived.Deep.CutRange
import Derived.Test.YtajfgmlockjmhaiGreatDoorJt2
import Derived.Deep.RegionWith
import Derived.BigQuiet
import Derived.RangeFuncNested
namespace Go.Proofs.YtajfgmlockjmhaiGreatDoor
open Go.ChangeShapes Go.WideShapes Go.ChangeAt Go.WideElems Go.RowKit

theorem tErr : (Tryz.prog.globals[6]?).map (·.type) = some 32 := by kernel_rfl
set_option maxRecDepth 100000 in
theorem errS_of_head {W : World} {nm : String} {d : DataW Unit} {rest : List (String × DataW Unit)} (h : laidMet Tryz.prog (("strconv.ErrSyntax", .iface nm d) :: rest) W) : ErrS W := by
  obtain ⟨ps, ⟨g', t', cs, fuel, p, q, hg', ht', hvar, hd, _, _⟩, _⟩ := h
  obtain rfl := Option.some.inj (gErr.symm.trans hg')
  obtain rfl := Option.some.inj (tErr.symm.trans ht')
  obtain ⟨l⟩ := cs
  cases fuel with
  | zero => simp [DataW.trod] at hd
  | succ fuel =>
    unfold DataW.trod at hd
    rw [Tryz.underlying32] at hd
    split at hd <;> simp_all
    exact ⟨_, _, hvar⟩
end Go.Proofs.YtajfgmlockjmhaiGreatDoor
namespace Go.Proofs.YtajfgmlockjmhaiGreatDoor
open Go.RowKit

/-- The first of a room's states. -/
def stsK (p : PD) (t r : Nat) : List St := (List.range t).map fun i => (kT p i).rooms.getD r stNew
theorem stsK_succ (p : PD) (t r : Nat) : stsK p (t + 1) r = stsK p t r ++ [(kT p t).rooms.getD r stNew] := by
  unfold stsK
  rw [List.range_succ, List.map_append]
  rfl
/-- A row of the caller's own has grown. -/
theorem KTouch.rowG {w w2 wa : World} {row : Option Nat} (hb : Below w.heap.size w w2) (hg : w2.grownBy wa row) : KTouch row.toList w wa :=
  ⟨hg.os.trans hb.os, hg.tape.trans hb.tape, hg.output.trans hb.output, Nat.le_trans hb.size hg.size, fun k hk hm => by
    have := hb.size
    exact (hg.block k (by omega) (fun e => hm (by rw [← e]; simp))).trans (hb.block k hk)⟩
/-- A kernel, and a row of states beside it. -/
structure SRn {G : World → Prop} (C : KerC G) (w0 wr : World) (p : PD) (vc vs vw : Value) (kb B r t : Nat) (v : Value) (F : List Nat) : Prop where
  K : C.K w0 wr p vc vs vw (kT p t) kb F
  own : wr.ownsRow B 73 8 v t (stCells (stsK p t r))
  ap : ∀ g, v.ownBlock = some g → g ∉ F
  B1 : w0.heap.size ≤ B
  B2 : B ≤ wr.heap.size
/-- One more state, and a tick. -/
theorem SRn.more {G : World → Prop} {C : KerC G} {w0 wr w3 w8 : World} {p : PD} {vc vs vw : Value} {kb B r t : Nat} {v v' : Value} {F : List Nat} {s : St} (h : SRn C w0 wr p vc vs vw kb B r t v F) (hs : (kT p t).rooms.getD r stNew = s) (b3 : Below wr.heap.size wr w3) (hg : w3.grownBy w8 v.ownBlock)
    (own8 : w8.ownsRow B 73 8 v' (t + 1) (stCells (stsK p t r) ++ [.int .i64 s.p, .int .i64 (s.c 0), .int .i64 (s.c 1), .int .i64 (s.c 2), .int .i64 (s.c 3), .int .i64 (s.c 4), .int .i64 (s.c 5), .bool s.f])) (hnew : ∀ g, v'.ownBlock = some g → v.ownBlock = some g ∨ w3.heap.size ≤ g) (hG : G w0) (hp : plchk p = 0) (ht : t < 1000000) :
    Calls Tryz.prog 12 #[.pointer (some ⟨kb, 0, none⟩)] w8 fun e w' => ∃ a b c d, e = .returned (.agg #[.int .i64 a, .int .i64 b, .int .i64 c, .int .i64 d]) ∧ ∃ F', SRn C w0 w' p vc vs vw kb B r (t + 1) v' F' := by
  have tk := KTouch.rowG b3 hg
  have hK8 := C.frame h.K tk (fun m hm => by
    have hm' : v.ownBlock = some m := by simpa using hm
    exact ⟨h.ap m hm', Nat.le_trans h.B1 (h.own.lt m hm').1⟩)
  refine (C.tick hG hK8 hp (kT_ok hp t) (by rw [kT_time]; omega)).mono ?_
  rintro e w' ⟨rfl, F', hK', tk', hF'⟩
  have hs8 := tk.size
  have hs3 := b3.size
  have hg8 := hg.size
  have hap8 : ∀ g, v'.ownBlock = some g → g ∉ F := fun g hg' hm => by
    rcases hnew g hg' with h1 | h1
    · exact h.ap g h1 hm
    · have := (C.ge h.K g hm).2
      omega
  refine ⟨_, _, _, _, rfl, F', hK', ?_, fun g hg' hm => ?_, h.B1, Nat.le_trans h.B2 (Nat.le_trans hs8 tk'.size)⟩
  · rw [stsK_succ, stCells_snoc, hs]
    exact own_block own8 (fun g hg' => tk'.block g (own8.lt g hg').2 (hap8 g hg'))
  · rcases hF' g hm with h1 | h1
    · exact hap8 g hg' h1
    · have := (own8.lt g hg').2
      omega
set_option maxRecDepth 100000 in
set_option maxHeartbeats 8000000 in
theorem srun_wrong {G : World → Prop} (C : KerC G) (p : PD) (vc vs vw : Value) (n r : Int) (W : World) (hG : G W) (hP : Pln W vc vs vw p) (hp : plchk p ≠ 0) :
    Calls Tryz.prog 33 #[plV vc p.ticks vs vw, .int .i64 n, .int .i64 r] W fun e w' => e = .returned (.tuple #[.slice none 0 0, wErr (plchk p)]) ∧ Below W.heap.size W w' := by
  obtain ⟨ca, cc, rfl⟩ := hP.code.form
  obtain ⟨sa, sc, rfl⟩ := hP.spans.form
  obtain ⟨wa, wc', rfl⟩ := hP.wires.form
  have hx0 := Bx.first W (.slice ca p.code.length cc) p.ticks (.slice sa p.spans.length sc) (.slice wa p.wires.length wc')
  have q1 := C.no p _ _ _ _ (C.all _ _ hG hx0.below) (hP.all hx0.below) hp
  rw [wErr_not hp] at q1 ⊢
  unfold plV at q1 ⊢
  have k0 := hx0.c0
  have k1 := hx0.c1
  have k2 := hx0.c2
  have k3 := hx0.c3
  clear hP hG
  generalize plchk p = z at q1 hp ⊢
  go_enter Tryz.func33, Tryz.ntmps33
  go_wp2_with (go_at_call 9; refine q1.mono ?_; rintro e w1 ⟨x, rfl, b1⟩)
  go_ret2
  exact ⟨rfl, (hx0.step b1).below⟩
set_option maxRecDepth 100000 in
set_option maxHeartbeats 8000000 in
theorem srun_n {G : World → Prop} (C : KerC G) (p : PD) (vc vs vw : Value) (n r : Int) (W : World) (hG : G W) (hP : Pln W vc vs vw p) (hp : plchk p = 0) (hn : n < 0 ∨ 2000 < n) :
    Calls Tryz.prog 33 #[plV vc p.ticks vs vw, .int .i64 n, .int .i64 r] W fun e w' => e = .returned (.tuple #[.slice none 0 0, wErr 1]) ∧ Below W.heap.size W w' := by
  obtain ⟨ca, cc, rfl⟩ := hP.code.form
  obtain ⟨sa, sc, rfl⟩ := hP.spans.form
  obtain ⟨wa, wc', rfl⟩ := hP.wires.form
  have hx0 := Bx.first W (.slice ca p.code.length cc) p.ticks (.slice sa p.spans.length sc) (.slice wa p.wires.length wc')
  have q1 : Calls Tryz.prog 9 #[.agg #[.slice ca p.code.length cc, .int .i64 p.ticks, .slice sa p.spans.length sc, .slice wa p.wires.length wc']] (W.alloc (.cells #[.slice ca p.code.length cc, .int .i64 p.ticks, .slice sa p.spans.length sc, .slice wa p.wires.length wc'] 26)) fun e w' => ∃ kb, e = .returned (.tuple #[.pointer (some ⟨kb, 0, none⟩), .nilIface]) ∧ Below W.heap.size W w' := by
    refine (C.new p _ _ _ _ (C.all _ _ hG hx0.below) (hP.all hx0.below) hp).mono ?_
    rintro e w' ⟨kb, F, rfl, hK⟩
    exact ⟨kb, rfl, hx0.below.trans ((C.since hK).mono (by simp))⟩
  unfold plV
  have k0 := hx0.c0
  have k1 := hx0.c1
  have k2 := hx0.c2
  have k3 := hx0.c3
  clear hP hG hp
  have hcase : decide (n < 0) = true ∨ (decide (n < 0) = false ∧ decide (2000 < n) = true) := by
    by_cases h : n < 0
    · exact Or.inl (decide_eq_true h)
    · exact Or.inr ⟨decide_eq_false h, decide_eq_true (hn.resolve_left h)⟩
  clear hn
  rcases hcase with h1 | ⟨h1, h2⟩
  · go_enter Tryz.func33, Tryz.ntmps33
    go_wp2_with (go_at_call 9; refine q1.mono ?_; rintro e w1 ⟨kb, rfl, b1⟩)
    go_ret2
    exact ⟨rfl, b1⟩
  · go_enter Tryz.func33, Tryz.ntmps33
    go_wp2_with (go_at_call 9; refine q1.mono ?_; rintro e w1 ⟨kb, rfl, b1⟩)
    go_ret2
    exact ⟨rfl, b1⟩
set_option maxRecDepth 100000 in
set_option maxHeartbeats 8000000 in
theorem srun_room {G : World → Prop} (C : KerC G) (p : PD) (vc vs vw : Value) (n : Nat) (r : Int) (W : World) (hG : G W) (hP : Pln W vc vs vw p) (hp : plchk p = 0) (hn : n ≤ 2000) (hr : r < 0 ∨ (p.code.length : Int) ≤ r) :
    Calls Tryz.prog 33 #[plV vc p.ticks vs vw, .int .i64 n, .int .i64 r] W fun e w' => e = .returned (.tuple #[.slice none 0 0, wErr 1]) ∧ Below W.heap.size W w' := by
  obtain ⟨ca, cc, rfl⟩ := hP.code.form
  obtain ⟨sa, sc, rfl⟩ := hP.spans.form
  obtain ⟨wa, wc', rfl⟩ := hP.wires.form
  have hx0 := Bx.first W (.slice ca p.code.length cc) p.ticks (.slice sa p.spans.length sc) (.slice wa p.wires.length wc')
  have q1 : Calls Tryz.prog 9 #[.agg #[.slice ca p.code.length cc, .int .i64 p.ticks, .slice sa p.spans.length sc, .slice wa p.wires.length wc']] (W.alloc (.cells #[.slice ca p.code.length cc, .int .i64 p.ticks, .slice sa p.spans.length sc, .slice wa p.wires.length wc'] 26)) fun e w' => ∃ kb, e = .returned (.tuple #[.pointer (some ⟨kb, 0, none⟩), .nilIface]) ∧ Below W.heap.size W w' ∧ Calls Tryz.prog 32 #[.pointer (some ⟨kb, 0, none⟩), .int .i64 r] w' fun e w2 => e = .returned (.tuple #[stA stNew, wErr 1]) ∧ Below w'.heap.size w' w2 := by
    refine (C.new p _ _ _ _ (C.all _ _ hG hx0.below) (hP.all hx0.below) hp).mono ?_
    rintro e w' ⟨kb, F, rfl, hK⟩
    have hno : noRoom (newK p) r = true := by
      have hl : (newK p).rooms.length = p.code.length := by simp [newK]
      unfold noRoom
      rw [hl, Bool.or_eq_true]
      rcases hr with h | h
      · exact Or.inl (decide_eq_true h)
      · exact Or.inr (decide_eq_true h)
    have hS := C.state r hK (kT_ok hp 0) hp
    have hrk : roomK (newK p) r = stNew := by
      unfold roomK
      rw [if_pos hno]
    rw [hrk, hno] at hS
    exact ⟨kb, rfl, hx0.below.trans ((C.since hK).mono (by simp)), hS⟩
  unfold plV
  have k0 := hx0.c0
  have k1 := hx0.c1
  have k2 := hx0.c2
  have k3 := hx0.c3
  clear hP hG hp hr
  have hn0 : decide ((n : Int) < 0) = false := decide_eq_false (by omega)
  have hn1 : decide (2000 < (n : Int)) = false := decide_eq_false (by omega)
  have hn3 : (0 : Int) < (n : Int) + 1 := by omega
  unfold stA stNew wErr at q1
  go_enter Tryz.func33, Tryz.ntmps33
  go_wp2_with (go_at_call 9; refine q1.mono ?_; rintro e w1 ⟨kb, rfl, b1, q2⟩)
  refine wp_loop_rounds 1 ?_
  rw [rounds_succ]
  go_wp2_with (go_at_call 32; refine q2.mono ?_; rintro e w2 ⟨rfl, b2⟩)
  go_ret2
  refine ⟨rfl, ?_⟩
  have hb := b1.trans (b2.mono b1.size)
  have hs := hb.size
  repeat' first | exact hb | refine Below.drew ?_ | refine Below.alloc ?_ (by first | omega | (simp; omega)) _ | refine Below.setCell ?_ (by first | omega | (simp; omega)) _
set_option maxRecDepth 100000 in
set_option maxHeartbeats 8000000 in
theorem srun_ok {G : World → Prop} (C : KerC G) (p : PD) (vc vs vw : Value) (n r : Nat) (W : World) (hG : G W) (hP : Pln W vc vs vw p) (hp : plchk p = 0) (hn : n ≤ 2000) (hr : r < p.code.length) :
    Calls Tryz.prog 33 #[plV vc p.ticks vs vw, .int .i64 n, .int .i64 r] W fun e w' => ∃ v, e = .returned (.tuple #[v, .nilIface]) ∧ StL w' v (statesK p n r) ∧ Below W.heap.size W w' := by
  obtain ⟨jj, hj, hy0, hy1, hy2⟩ := info_parts infoSt
  obtain ⟨ca, cc, rfl⟩ := hP.code.form
  obtain ⟨sa, sc, rfl⟩ := hP.spans.form
  obtain ⟨wa, wc', rfl⟩ := hP.wires.form
  have hx0 := Bx.first W (.slice ca p.code.length cc) p.ticks (.slice sa p.spans.length sc) (.slice wa p.wires.length wc')
  have HG : Hid (G (W.alloc (.cells #[.slice ca p.code.length cc, .int .i64 p.ticks, .slice sa p.spans.length sc, .slice wa p.wires.length wc'] 26))) := C.all _ _ hG hx0.below
  have hA := hx0.below
  have HN : Hid (Calls Tryz.prog 9 #[.agg #[.slice ca p.code.length cc, .int .i64 p.ticks, .slice sa p.spans.length sc, .slice wa p.wires.length wc']] (W.alloc (.cells #[.slice ca p.code.length cc, .int .i64 p.ticks, .slice sa p.spans.length sc, .slice wa p.wires.length wc'] 26)) fun e w' => ∃ kb F, e = .returned (.tuple #[.pointer (some ⟨kb, 0, none⟩), .nilIface]) ∧ C.K (W.alloc (.cells #[.slice ca p.code.length cc, .int .i64 p.ticks, .slice sa p.spans.length sc, .slice wa p.wires.length wc'] 26)) w' p (.slice ca p.code.length cc) (.slice sa p.spans.length sc) (.slice wa p.wires.length wc') (newK p) kb F) := C.new p _ _ _ _ HG.out (hP.all hx0.below) hp
  unfold plV
  have k0 := hx0.c0
  have k1 := hx0.c1
  have k2 := hx0.c2
  have k3 := hx0.c3
  have HGs : Hid (∀ t, noRoom (kT p t) r = false ∧ roomK (kT p t) r = (kT p t).rooms.getD r stNew) := fun t => by
    have hl : (kT p t).rooms.length = p.code.length := (kT_ok hp t).rl
    have hno : noRoom (kT p t) r = false := by
      unfold noRoom
      rw [hl, Bool.or_eq_false_iff]
      exact ⟨decide_eq_false (by omega), decide_eq_false (by omega)⟩
    refine ⟨hno, ?_⟩
    unfold roomK
    rw [if_neg (by rw [hno]; decide), Int.toNat_natCast]
  clear hP hG
  have hn0 : decide ((n : Int) < 0) = false := decide_eq_false (by omega)
  have hn1 : decide (2000 < (n : Int)) = false := decide_eq_false (by omega)
  go_enter Tryz.func33, Tryz.ntmps33
  go_wp2_with (go_at_call 9; refine HN.out.mono ?_; rintro e w1 ⟨kb, F, rfl, hK⟩)
  clear HN
  generalize W.alloc (.cells #[.slice ca p.code.length cc, .int .i64 p.ticks, .slice sa p.spans.length sc, .slice wa p.wires.length wc'] 26) = W0 at *
  go_loopw [10, 30] (fun v i wr => ∃ (t : Nat) (F : List Nat), t ≤ n + 1 ∧ i = .int .i64 t ∧ SRn C W0 wr p (.slice ca p.code.length cc) (.slice sa p.spans.length sc) (.slice wa p.wires.length wc') kb w1.heap.size r t v F) (fun _ i _ => n + 1 - (intOf i).toNat)
  case atStart => exact ⟨0, F, Nat.zero_le _, rfl, hK, World.ownsRow_nil _ _ _ _, fun g hg => (by cases hg), (C.since hK).size, Nat.le_refl _⟩
  case round =>
    clear hK
    obtain ⟨t, F', htn, rfl, hst⟩ := hrel
    obtain ⟨vo, vn, vk, rfl⟩ := own_form hst.own
    have hbw := C.since hst.K
    by_cases htl : t < n + 1
    · have hti : (t : Int) < (n : Int) + 1 := by omega
      obtain ⟨hno, hrk⟩ := HGs.out t
      obtain ⟨s, hs⟩ : ∃ s, (kT p t).rooms.getD r stNew = s := ⟨_, rfl⟩
      have HS : Hid ((kT p t).rooms.getD r stNew = s) := hs
      have hS := C.state r hst.K (kT_ok hp t) hp
      rw [hno, hrk, hs] at hS
      have HT : Hid (Calls Tryz.prog 32 #[.pointer (some ⟨kb, 0, none⟩), .int .i64 r] wr fun e w2 => e = .returned (.tuple #[.agg #[.int .i64 s.p, .int .i64 (s.c 0), .int .i64 (s.c 1), .int .i64 (s.c 2), .int .i64 (s.c 3), .int .i64 (s.c 4), .int .i64 (s.c 5), .bool s.f], .nilIface]) ∧ Below wr.heap.size wr w2) := hS
      have HR : Hid (SRn C W0 wr p (.slice ca p.code.length cc) (.slice sa p.spans.length sc) (.slice wa p.wires.length wc') kb w1.heap.size r t (.slice vo vn vk) F') := hst
      have hown0 := hst.own
      have hB2 := hst.B2
      clear hS hs hst hno hrk
      go_upto_region 9 with fail
      go_cut [11, 12, 30] from 30 to 47 (fun s11 s12 s30 wx => s12 = .nilIface ∧ s30 = .int .i64 t ∧ ∃ g, s11 = .pointer (some ⟨g, 0, none⟩) ∧ StC wx g 0 s ∧ Below wr.heap.size wr wx)
      case first =>
        go_wp2_with (go_at_call 32; refine HT.out.mono ?_; rintro e w2 ⟨rfl, b2⟩)
        go_meet
        case rel =>
          refine ⟨rfl, rfl, w2.heap.size, rfl, ?_, ?_⟩
          · constructor <;> simp [go_sem]
          · have hs2 := b2.size
            repeat' first | exact b2 | refine Below.drew ?_ | refine Below.alloc ?_ (by first | omega | (simp; omega)) _ | refine Below.setCell ?_ (by first | omega | (simp; omega)) _
      case rest =>
        obtain ⟨rfl, rfl, g, rfl, hsc, hbc⟩ := hcut
        obtain ⟨q0, q1, q2, q3, q4, q5, q6, q7⟩ := hsc
        have own3 := own_block hown0 (fun k hk => hbc.block k (hown0.lt k hk).2)
        have hsz := hbc.size
        clear HT hown0
        go_wp2_with (at_builtin; refine wpList_append_at _ rfl _ _ 63 rfl w1.heap.size 73 jj _ 8 64 Tryz.underlying63 hj hy0 hy1 hy2 rfl (by decide) _ _ _ rfl (own3.alloc _) ⟨wc.heap.size, 0, none⟩ 1 1 [.int .i64 s.p, .int .i64 (s.c 0), .int .i64 (s.c 1), .int .i64 (s.c 2), .int .i64 (s.c 3), .int .i64 (s.c 4), .int .i64 (s.c 5), .bool s.f] rfl rfl ?c1A ?c2A ?c3A ?c4A ?c5A ?_)
        try (case c1A => exact st_new rfl s _)
        case c2A => first | exact st_one s | exact ⟨rfl, rfl, rfl, rfl, rfl, rfl, rfl, rfl⟩
        case c3A => unfold maxLen; omega
        case c4A => omega
        case c5A => first | omega | (simp; omega)
        intro v1 w8 own8 hg8 hnw8
        have hb3 : Below wr.heap.size wr (wc.alloc (.cells #[.int .i64 s.p, .int .i64 (s.c 0), .int .i64 (s.c 1), .int .i64 (s.c 2), .int .i64 (s.c 3), .int .i64 (s.c 4), .int .i64 (s.c 5), .bool s.f] 73)) := hbc.alloc hbc.size _
        have HQ : Hid (Calls Tryz.prog 12 #[.pointer (some ⟨kb, 0, none⟩)] w8 fun e w' => ∃ a b c d, e = .returned (.agg #[.int .i64 a, .int .i64 b, .int .i64 c, .int .i64 d]) ∧ ∃ F', SRn C W0 w' p (.slice ca p.code.length cc) (.slice sa p.spans.length sc) (.slice wa p.wires.length wc') kb w1.heap.size r (t + 1) v1 F') := HR.out.more HS.out hb3 hg8 own8 (fun g hg => by have := hnw8 g hg; simpa using this) HG.out hp (by omega)
        obtain ⟨g8, cap8, rfl⟩ := own_succ own8
        clear own8 hg8 hnw8 own3 q0 q1 q2 q3 q4 q5 q6 q7 hb3
        go_wp2_with (go_at_call 12; refine HQ.out.mono ?_; rintro e w9 ⟨ea, eb, ec, ed, rfl, F9, hst9⟩)
        go_roundw
        case rel => exact ⟨t + 1, F9, by omega, by go_num, hst9⟩
        case measure => simp [intOf]; omega
    · obtain rfl : t = n + 1 := by omega
      have hti : decide (((n + 1 : Nat) : Int) < (n : Int) + 1) = false := decide_eq_false (by omega)
      have HS : Hid (StL wr (.slice vo vn vk) (statesK p n r)) := StL.own (by rw [statesK_len]; exact hst.own)
      have HB' : Hid (Below W.heap.size W wr) := hA.trans (hbw.mono hA.size)
      clear hst
      go_wp2
      go_ret2
      exact ⟨_, rfl, HS.out, HB'.out⟩
/-- Run does what the laws of sight ask of it. -/
theorem sgt_run {G : World → Prop} (C : KerC G) : SgtRun G := fun p vc vs vw n r W hG hP => by
  by_cases hp : plchk p = 0
  · by_cases hn : n < 0 ∨ 2000 < n
    · have he : runE p n r = 1 := by
        unfold runE
        rw [if_pos hp, if_pos (by omega)]
      rw [he]
      refine (srun_n C p vc vs vw n r W hG hP hp hn).mono ?_
      rintro e w' ⟨rfl, hb⟩
      exact ⟨_, rfl, Or.inl ⟨rfl, _, _, rfl⟩, hb⟩
    · obtain ⟨n, rfl⟩ : ∃ m : Nat, n = m := ⟨n.toNat, by omega⟩
      by_cases hr : r < 0 ∨ (p.code.length : Int) ≤ r
      · have he : runE p n r = 1 := by
          unfold runE
          rw [if_pos hp, if_pos (by omega)]
        rw [he]
        refine (srun_room C p vc vs vw n r W hG hP hp (by omega) hr).mono ?_
        rintro e w' ⟨rfl, hb⟩
        exact ⟨_, rfl, Or.inl ⟨rfl, _, _, rfl⟩, hb⟩
      · obtain ⟨r, rfl⟩ : ∃ m : Nat, r = m := ⟨r.toNat, by omega⟩
        have he : runE p n r = 0 := by
          unfold runE
          rw [if_pos hp, if_neg (by omega)]
        rw [he, if_pos rfl, Int.toNat_natCast, Int.toNat_natCast]
        exact srun_ok C p vc vs vw n r W hG hP hp (by omega) (by omega)
  · have he : runE p n r = plchk p := by
      unfold runE
      rw [if_neg hp]
    rw [he, if_neg hp]
    refine (srun_wrong C p vc vs vw n r W hG hP hp).mono ?_
    rintro e w' ⟨rfl, hb⟩
    exact ⟨_, rfl, Or.inl ⟨rfl, _, _, rfl⟩, hb⟩
end Go.Proofs.YtajfgmlockjmhaiGreatDoor
namespace Go.Proofs.YtajfgmlockjmhaiGreatDoor
open Go.RowKit

/-- Its plan. -/
def setP : PD := ⟨[[(1, 2, 7)]], 1, [(0, 1, 0)], []⟩
theorem setP_ok : plchk setP = 0 := by decide +kernel
theorem setP_c : (roomK (tickK setP setP.spans (newK setP)).1 0).c 2 = 7 := by decide +kernel
theorem setP_r : noRoom (tickK setP setP.spans (newK setP)).1 0 = false := by decide +kernel
/-- It lies in the world. -/
theorem setP_pln (W : World) (n : Nat) (hn : n = W.heap.size) : Pln (((W.alloc (.cells #[.int .i64 1, .int .i64 2, .int .i64 7] 28)).alloc (.cells #[.slice (some ⟨n, 0, none⟩) 1 1] 29)).alloc (.cells #[.int .i64 0, .int .i64 1, .int .i64 0] 82)) (.slice (some ⟨n + 1, 0, none⟩) 1 1) (.slice (some ⟨n + 2, 0, none⟩) 1 1) (.slice none 0 0) setP := by
  subst hn
  refine ⟨Or.inr ⟨_, 0, 1, rfl, Nat.le_refl _, by simp, fun i c hi => ?_⟩, Or.inr ⟨_, 0, 1, rfl, Nat.le_refl _, by simp, fun i s hi => ?_⟩, Or.inl ⟨rfl, _, _, rfl⟩⟩
  · match i, hi with
    | 0, hi =>
      simp [setP] at hi
      subst hi
      refine ⟨.slice (some ⟨W.heap.size, 0, none⟩) 1 1, by simp [go_sem], Or.inr ⟨W.heap.size, 0, 1, rfl, by simp; omega, fun j o ho => ?_⟩⟩
      match j, ho with
      | 0, ho => simp at ho; subst ho; simp [go_sem]
      | j + 1, ho => simp at ho
    | i + 1, hi => simp [setP] at hi
  · match i, hi with
    | 0, hi => simp [setP] at hi; subst hi; simp [go_sem]
    | i + 1, hi => simp [setP] at hi
set_option maxRecDepth 100000 in
set_option maxHeartbeats 8000000 in
theorem topone_any {G : World → Prop} (C : KerC G) (w : World) (hG : G w) : Calls Tryz.prog 30 #[] w fun e w' => e = .returned (.bool true) ∧ Below w.heap.size w w' := by
  have hpl := setP_pln w w.heap.size rfl
  have hB0 : Below w.heap.size w (((w.alloc (.cells #[.int .i64 1, .int .i64 2, .int .i64 7] 28)).alloc (.cells #[.slice (some ⟨w.heap.size, 0, none⟩) 1 1] 29)).alloc (.cells #[.int .i64 0, .int .i64 1, .int .i64 0] 82)) := (((Below.refl _ _).alloc (Nat.le_refl _) _).alloc (by simp) _).alloc (by simp; omega) _
  have hN := C.new setP _ _ _ _ (C.all _ _ hG hB0) hpl setP_ok
  have HK : Hid (∀ W w1 kb F, G W → C.K W w1 setP (.slice (some ⟨w.heap.size + 1, 0, none⟩) 1 1) (.slice (some ⟨w.heap.size + 2, 0, none⟩) 1 1) (.slice none 0 0) (newK setP) kb F → Calls Tryz.prog 12 #[.pointer (some ⟨kb, 0, none⟩)] w1 fun e w2 => (∃ v, e = .returned v) ∧ Below W.heap.size W w2 ∧ Calls Tryz.prog 32 #[.pointer (some ⟨kb, 0, none⟩), .int .i64 0] w2 fun e w3 => ∃ s : St, e = .returned (.tuple #[.agg #[.int .i64 s.p, .int .i64 (s.c 0), .int .i64 (s.c 1), .int .i64 7, .int .i64 (s.c 3), .int .i64 (s.c 4), .int .i64 (s.c 5), .bool s.f], .nilIface]) ∧ Below w2.heap.size w2 w3) := fun W w1 kb F hW hK => by
    refine (C.tick hW hK setP_ok (new_ok setP_ok) (by decide)).mono ?_
    rintro e w2 ⟨rfl, F', hK2, tk, _⟩
    refine ⟨⟨_, rfl⟩, C.since hK2, (C.state 0 hK2 (tick_ok setP_ok (new_ok setP_ok)) setP_ok).mono ?_⟩
    rintro e w3 ⟨rfl, b3⟩
    refine ⟨roomK (tickK setP setP.spans (newK setP)).1 0, ?_, b3⟩
    rw [setP_r]
    unfold stA
    rw [setP_c]
    rfl
  have HG : Hid (G w) := hG
  clear hG hpl
  unfold plV at hN
  rw [show setP.ticks = 1 from rfl] at hN
  go_enter Tryz.func30, Tryz.ntmps30
  go_upto_region 4 with (go_at_call 9; refine hN.mono ?_; rintro e w1 ⟨kb, F, rfl, hK⟩)
  have q := HK.out _ w1 kb F (C.all _ _ HG.out hB0) hK
  have hbq := hB0
  generalize ((w.alloc (.cells #[.int .i64 1, .int .i64 2, .int .i64 7] 28)).alloc (.cells #[.slice (some ⟨w.heap.size, 0, none⟩) 1 1] 29)).alloc (.cells #[.int .i64 0, .int .i64 1, .int .i64 0] 82) = W0 at q hbq
  clear hN hK HK hB0
  go_upto_region 5 with (go_at_call 12; refine q.mono ?_; rintro e w2 ⟨⟨v, rfl⟩, b2, q3⟩; clear q)
  go_wp2_with (go_at_call 32; refine q3.mono ?_; rintro e w3 ⟨s, rfl, b3⟩; clear q3)
  go_ret
  have hb3 := hbq.trans ((b2.trans (b3.mono b2.size)).mono hbq.size)
  exact ⟨rfl, hb3.alloc hb3.size _⟩
end Go.Proofs.YtajfgmlockjmhaiGreatDoor
namespace Go.Proofs.YtajfgmlockjmhaiGreatDoor

theorem dec_mem (u : Nat) : ∀ x ∈ Lib.decDigits u, 48 ≤ x.toNat ∧ x.toNat ≤ 57 := by
  induction u using Nat.strongRecOn with
  | _ u ih =>
    intro x hx
    rw [Lib.decDigits] at hx
    split at hx
    · simp at hx; subst hx; simp; omega
    · rename_i h
      simp only [List.mem_append, List.mem_singleton] at hx
      rcases hx with hx | hx
      · exact ih (u / 10) (by omega) x hx
      · subst hx; simp; omega
theorem itoa_pos {z : Int} (h : 0 ≤ z) : Lib.itoa z = Lib.decDigits z.toNat := by unfold Lib.itoa; rw [if_neg (by omega)]
theorem itoa_mem {z : Int} (h : 0 ≤ z) : ∀ x ∈ Lib.itoa z, 48 ≤ x.toNat ∧ x.toNat ≤ 57 := by rw [itoa_pos h]; exact dec_mem _
theorem not_itoa {c : UInt8} {z : Int} (h : 0 ≤ z) (hc : c.toNat < 48) : c ∉ Lib.itoa z := fun hm => by have := itoa_mem h c hm; omega
theorem not_tail {c : UInt8} (hc : c.toNat < 48) (h32 : c ≠ 32) : ∀ (zs : List Int), (∀ z ∈ zs, 0 ≤ z) → c ∉ tail zs
  | [], _ => by simp [tail]
  | z :: zs, h => by
    have h1 := not_tail hc h32 zs (fun y hy => h y (by simp [hy]))
    have h2 := not_itoa (c := c) (h z (by simp)) hc
    unfold tail at h1 ⊢
    rw [List.flatMap_cons]
    simp only [List.mem_append, List.mem_cons, not_or]
    exact ⟨⟨h32, h2⟩, h1⟩
end Go.Proofs.YtajfgmlockjmhaiGreatDoor
namespace Go.Proofs.YtajfgmlockjmhaiGreatDoor

theorem digit_val {d : Nat} (h : d < 10) : Lib.digitVal (UInt8.ofNat (48 + d)) = some d := by
  have e : (UInt8.ofNat (48 + d)).toNat = 48 + d := by simp; omega
  unfold Lib.digitVal
  rw [e, if_pos (by omega)]
  congr 1
  omega
theorem decFrom_snoc (b : UInt8) (d : Nat) (hd : Lib.digitVal b = some d) : ∀ (l : List UInt8) (acc n : Nat), Lib.decFrom acc l = some n → Lib.decFrom acc (l ++ [b]) = some (n * 10 + d)
  | [], acc, n, h => by simp only [Lib.decFrom, Option.some.injEq] at h; subst h; simp [Lib.decFrom, hd]
  | x :: l, acc, n, h => by
    simp only [Lib.decFrom, List.cons_append] at h ⊢
    cases hx : Lib.digitVal x with
    | none => rw [hx] at h; cases h
    | some e => rw [hx] at h; simp only at h ⊢; exact decFrom_snoc b d hd l _ n h
theorem dec_from (u : Nat) : Lib.decFrom 0 (Lib.decDigits u) = some u := by
  induction u using Nat.strongRecOn with
  | _ u ih =>
    rw [Lib.decDigits]
    split
    · rename_i h
      rw [Lib.decFrom, digit_val h]
      simp [Lib.decFrom]
    · rename_i h
      rw [decFrom_snoc _ (u % 10) (digit_val (by omega)) _ 0 (u / 10) (ih (u / 10) (by omega))]
      congr 1
      omega
theorem dec_ne (u : Nat) : Lib.decDigits u ≠ [] := by
  rw [Lib.decDigits]
  split <;> simp
theorem atoi_dec (u : Nat) : Lib.atoi (Lib.decDigits u) = some (u : Int) := by
  cases h : Lib.decDigits u with
  | nil => exact absurd h (dec_ne u)
  | cons b r =>
    have hb := dec_mem u b (by rw [h]; simp)
    have h45 : (b == 45) = false := by simp; intro e; rw [e] at hb; simp at hb
    have h43 : (b == 43) = false := by simp; intro e; rw [e] at hb; simp at hb
    have hd := dec_from u
    rw [h] at hd
    simp [Lib.atoi, h45, h43, Lib.decNat, hd]
theorem cut_tail (zs : List Int) (h : ∀ z ∈ zs, 0 ≤ z) : ∀ (cur : List UInt8), cutGo 32 cur (tail zs) = cur :: zs.map Lib.itoa := by
  induction zs with
  | nil => intro cur; rfl
  | cons z zs ih =>
    intro cur
    have e : tail (z :: zs) = 32 :: (Lib.itoa z ++ tail zs) := by simp [tail]
    rw [e, cutGo_hit rfl, cutGo_app 32 _ [] _ (not_itoa (h z (by simp)) (by decide)), List.nil_append, ih (fun y hy => h y (by simp [hy]))]
    rfl
theorem cut_body {p : List UInt8} (hp : (32 : UInt8) ∉ p) (zs : List Int) (h : ∀ z ∈ zs, 0 ≤ z) : cutB 32 (p ++ tail zs) = p :: zs.map Lib.itoa := by
  unfold cutB
  rw [cutGo_app 32 p [] _ hp, List.nil_append, cut_tail zs h]
theorem cut_join (c : UInt8) : ∀ (l cur : List UInt8) (p : List UInt8) (ps : List (List UInt8)), cutGo c cur l = p :: ps → cur ++ l = p ++ ps.flatMap (c :: ·)
  | [], cur, p, ps, h => by simp only [cutGo, List.cons.injEq] at h; obtain ⟨rfl, rfl⟩ := h; simp
  | x :: xs, cur, p, ps, h => by
    by_cases hx : x = c
    · rw [cutGo_hit hx] at h
      simp only [List.cons.injEq] at h
      obtain ⟨rfl, hps⟩ := h
      cases ps with
      | nil => have := (cutGo_len c xs []).1; rw [hps] at this; simp at this
      | cons q qs =>
        have := cut_join c xs [] q qs hps
        rw [List.nil_append] at this
        simp [hx, this]
    · rw [cutGo_miss hx] at h
      have := cut_join c xs (cur ++ [x]) p ps h
      simpa using this
end Go.Proofs.YtajfgmlockjmhaiGreatDoor
namespace Go.Proofs.YtajfgmlockjmhaiGreatDoor

theorem cut_endL : ∀ (ls : List (List UInt8)), (∀ u ∈ ls, (10 : UInt8) ∉ u) → cutB 10 (endL ls) = ls ++ [[]]
  | [], _ => rfl
  | u :: ls, h => by
    have e : endL (u :: ls) = u ++ 10 :: endL ls := by simp [endL]
    rw [e]
    unfold cutB
    rw [cutGo_at 10 u [] _ (h u (by simp)), List.nil_append, cut_endL ls (fun v hv => h v (by simp [hv]))]
    rfl
theorem not_word {w : List UInt8} {zs : List Int} (hw : (10 : UInt8) ∉ w) (h : ∀ z ∈ zs, 0 ≤ z) : (10 : UInt8) ∉ w ++ tail zs := by
  rw [List.mem_append, not_or]
  exact ⟨hw, not_tail (by decide) (by decide) zs h⟩
/-- What a plan that is right has for numbers. -/
structure Small (p : PD) : Prop where
  ticks : 0 ≤ p.ticks ∧ p.ticks ≤ 999
  spans : ∀ s ∈ p.spans, ∀ z ∈ [s.1, s.2.1, s.2.2], 0 ≤ z ∧ z ≤ 999
  wires : ∀ x ∈ p.wires, ∀ z ∈ [x.1, x.2.1, x.2.2.1, x.2.2.2], 0 ≤ z ∧ z ≤ 999
  code : ∀ c ∈ p.code, (chk c).2 = 0
end Go.Proofs.YtajfgmlockjmhaiGreatDoor
namespace Go.Proofs.YtajfgmlockjmhaiGreatDoor

def isD (d : UInt8) : Prop := 48 ≤ d.toNat ∧ d.toNat ≤ 57
def valD (l : List UInt8) : Int := l.foldl (fun a d => a * 10 + (d.toNat : Int) - 48) 0
theorem valD_nil : valD [] = 0 := rfl
theorem valD_snoc (l : List UInt8) (d : UInt8) : valD (l ++ [d]) = valD l * 10 + (d.toNat : Int) - 48 := by simp [valD]
theorem u8_back {d : UInt8} (h : isD d) : UInt8.ofNat (48 + (d.toNat - 48)) = d := by
  have := h.1
  rw [show 48 + (d.toNat - 48) = d.toNat by omega]
  simp
theorem dec_step {q r : Nat} (hq : 1 ≤ q) (hr : r < 10) : Lib.decDigits (q * 10 + r) = Lib.decDigits q ++ [UInt8.ofNat (48 + r)] := by
  rw [Lib.decDigits, dif_neg (by omega)]
  rw [show (q * 10 + r) / 10 = q by omega, show (q * 10 + r) % 10 = r by omega]
theorem val_good : ∀ (k : Nat) (l : List UInt8), l.length = k → (∀ d ∈ l, isD d) → l ≠ [] → (l.head? = some 48 → l.length = 1) → 0 ≤ valD l ∧ Lib.decDigits (valD l).toNat = l ∧ (l.head? ≠ some 48 → 1 ≤ valD l)
  | 0, l, hl, _, hne, _ => absurd (List.eq_nil_of_length_eq_zero hl) hne
  | k + 1, l, hl, hd, hne, hh => by
    rcases List.eq_nil_or_concat l with rfl | ⟨m, d, rfl⟩
    · exact absurd rfl hne
    · have hdd : isD d := hd d (by simp)
      obtain ⟨h1, h2⟩ := hdd
      rw [List.concat_eq_append] at *
      rw [valD_snoc]
      by_cases hm : m = []
      · subst hm
        simp only [valD_nil, List.nil_append]
        refine ⟨by omega, ?_, ?_⟩
        · rw [show ((0 : Int) * 10 + (d.toNat : Int) - 48).toNat = d.toNat - 48 by omega, Lib.decDigits_one (by omega), u8_back ⟨h1, h2⟩]
        · intro hne48
          have : d.toNat ≠ 48 := fun e => hne48 (by simp; exact UInt8.toNat_inj.1 e)
          omega
      · have hhd : (m ++ [d]).head? = m.head? := by cases m with | nil => exact absurd rfl hm | cons x xs => rfl
        have hlm : m.length = k := by simpa using hl
        have hmp : 0 < m.length := List.length_pos_iff.2 hm
        have hm48 : m.head? ≠ some 48 := fun e => by
          have := hh (hhd.trans e)
          simp at this
          exact hm this
        obtain ⟨i1, i2, i3⟩ := val_good k m hlm (fun x hx => hd x (by simp [hx])) hm (fun e => absurd e hm48)
        have i4 := i3 hm48
        refine ⟨by omega, ?_, fun _ => by omega⟩
        have e : (valD m * 10 + (d.toNat : Int) - 48).toNat = (valD m).toNat * 10 + (d.toNat - 48) := by omega
        rw [e, dec_step (by omega) (by omega), i2, u8_back ⟨h1, h2⟩]
theorem dec_head (u : Nat) (h : (Lib.decDigits u).head? = some 48) : u = 0 := by
  induction u using Nat.strongRecOn with
  | _ u ih =>
    by_cases hu : u < 10
    · rw [Lib.decDigits_one hu] at h
      simp only [List.head?_cons, Option.some.injEq] at h
      have := congrArg UInt8.toNat h
      simp [UInt8.toNat_ofNat] at this
      omega
    · rw [Lib.decDigits, dif_neg hu] at h
      have hne := dec_ne (u / 10)
      have e : (Lib.decDigits (u / 10) ++ [UInt8.ofNat (48 + u % 10)]).head? = (Lib.decDigits (u / 10)).head? := by
        cases hx : Lib.decDigits (u / 10) with
        | nil => exact absurd hx hne
        | cons x xs => rfl
      have := ih (u / 10) (by omega) (e.symm.trans h)
      omega
end Go.Proofs.YtajfgmlockjmhaiGreatDoor
