/-
  SnAllW, SnAll: joined into one text.
-/
import Derived.Test.YtajfgmlockjmhaiGreatDoorJt7
import Derived.Test.YtajfgmlockjmhaiGreatDoorJt3
import Derived.Test.YtajfgmlockjmhaiGreatDoorJt1
import Derived.Deep.RegionLaw
import Derived.RangeFuncNested
namespace Go.Proofs.YtajfgmlockjmhaiGreatDoor
open Go.RowKit

theorem hdCells_one (x : Value) (z : Int) (h : ∃ a n c, x = .slice a n c) : ∀ u ∈ [x, .int .i64 z], u.oneCell' = true := by
  obtain ⟨a, n, c, rfl⟩ := h
  intro u hu
  simp only [List.mem_cons, List.not_mem_nil, or_false] at hu
  rcases hu with rfl | rfl <;> rfl
/-- What is there so far: what wires hold, each in memory of its own. -/
def HdAt (W wr : World) (v : Value) (us : List (Value × Int)) (ls : List LnD) : Prop := ∀ (i : Nat) u l, us[i]? = some u → ls[i]? = some l → u.2 = l.ls ∧ Rd wr u.1 l.xs ∧ ∀ g, u.1.ownBlock = some g → W.heap.size ≤ g ∧ g < wr.heap.size ∧ v.ownBlock ≠ some g
theorem HdAt.next {W wr w2 w8 : World} {v v8 u : Value} {us : List (Value × Int)} {ls : List LnD} {l : LnD} {n : Nat} (h : HdAt W wr v us ls) (hn : us.length = n) (hl : ls[n]? = some l) (hW : W.heap.size ≤ wr.heap.size) (b2 : Below wr.heap.size wr w2) (hr : Rd w2 u l.xs) (hu : ∀ g, u.ownBlock = some g → wr.heap.size ≤ g ∧ g < w2.heap.size) (hv : ∀ g, v.ownBlock = some g → g < wr.heap.size) {w3 : World} (b3 : Below w2.heap.size w2 w3) (hg : w3.grownBy w8 v.ownBlock) (hnw : ∀ g, v8.ownBlock = some g → v.ownBlock = some g ∨ w3.heap.size ≤ g) :
    HdAt W w8 v8 (us ++ [(u, l.ls)]) ls := by
  have s2 := b2.size
  have s3 := b3.size
  have s8 := hg.size
  have hk : ∀ g, g < w2.heap.size → v.ownBlock ≠ some g → w8.heap[g]? = w2.heap[g]? := fun g h1 h2 => (hg.block g (by omega) (fun e => h2 e.symm)).trans (b3.block g h1)
  intro i u' l' hu' hl'
  by_cases hi : i < us.length
  · rw [List.getElem?_append_left hi] at hu'
    obtain ⟨q1, q2, q3⟩ := h i u' l' hu' hl'
    have hk2 : ∀ g, u'.1.ownBlock = some g → w8.heap[g]? = wr.heap[g]? := fun g e => by
      obtain ⟨_, a2, a3⟩ := q3 g e
      exact (hk g (by omega) a3).trans (b2.block g a2)
    refine ⟨q1, q2.block (fun g _ e => hk2 g e) (by omega), fun g e => ?_⟩
    obtain ⟨a1, a2, a3⟩ := q3 g e
    refine ⟨a1, by omega, fun e8 => ?_⟩
    rcases hnw g e8 with h1 | h1
    · exact a3 h1
    · omega
  · have hin : i = n := by
      have := (List.getElem?_eq_some_iff.1 hu').1
      simp at this
      omega
    subst hin
    rw [hl] at hl'
    obtain rfl := Option.some.inj hl'
    rw [List.getElem?_append_right (by omega), show i - us.length = 0 by omega] at hu'
    simp at hu'
    subst hu'
    refine ⟨rfl, hr.block (fun g h1 e => hk g h1 (fun e2 => ?_)) (by omega), fun g e => ⟨by have := (hu g e).1; omega, by have := (hu g e).2; omega, fun e8 => ?_⟩⟩
    · have := hv g e2
      have := (hu g e).1
      omega
    · have h5 := hu g e
      rcases hnw g e8 with h1 | h1
      · have := hv g h1
        omega
      · omega
set_option maxRecDepth 100000 in
set_option maxHeartbeats 8000000 in
theorem all_hd {G : World → Prop} (C : KerC G) (CW : KerWire C) {w0 W : World} {p : PD} {vc vs vw : Value} {k : KD} {kb : Nat} {F : List Nat} (hK : C.K w0 W p vc vs vw k kb F) (hk : KOk p k) (hp : plchk p = 0) :
    Calls Tryz.prog 40 #[.int .i64 (k.lines.length : Nat), .func (.func 41) #[.pointer (some ⟨kb, 0, none⟩)] #[]] W fun e w' => ∃ v us, e = .returned (.tuple #[v, .bool true]) ∧ us.length = k.lines.length ∧ w'.ownsRow W.heap.size 100 2 v us.length (hdCells us) ∧ HdAt W w' v us k.lines ∧ Below W.heap.size W w' := by
  obtain ⟨jj, hj, hy0, hy1, hy2⟩ := info_parts infoHd
  have hn5 : k.lines.length ≤ 12 := by rw [hk.ll]; exact (wschk_ok (plchk_zero hp).2.2.2.1).1
  have HT : Hid (∀ (i : Nat) l wr, k.lines[i]? = some l → Below W.heap.size W wr → Calls Tryz.prog 41 #[.pointer (some ⟨kb, 0, none⟩), .int .i64 i] wr fun e w2 => ∃ ao m cap, e = .returned (.tuple #[.agg #[.slice ao m cap, .int .i64 l.ls], .nilIface]) ∧ Rd w2 (.slice ao m cap) l.xs ∧ (∀ g, (Value.slice ao m cap).ownBlock = some g → wr.heap.size ≤ g ∧ g < w2.heap.size) ∧ Below wr.heap.size wr w2) := fun i l wr hl hb => by
    have h := CW (i : Int) (C.frame hK (KTouch.of (M := []) hb) (fun m hm => (by cases hm))) hk hp
    have hi := (List.getElem?_eq_some_iff.1 hl).1
    have hno : noLine k i = false := by
      unfold noLine
      rw [Bool.or_eq_false_iff]
      exact ⟨decide_eq_false (by omega), decide_eq_false (by omega)⟩
    have hrk : lineK k i = l := by
      unfold lineK
      rw [if_neg (by rw [hno]; decide), Int.toNat_natCast, List.getD_eq_getElem?_getD, hl]
      rfl
    rw [hno, hrk] at h
    refine h.mono ?_
    rintro e w2 ⟨u, rfl, h1, h2, h3⟩
    obtain ⟨ao, cap, rfl⟩ := h1.form
    exact ⟨_, _, _, rfl, h1, h2, h3⟩
  have HN : Hid (∀ wr, Below W.heap.size W wr → Calls Tryz.prog 41 #[.pointer (some ⟨kb, 0, none⟩), .int .i64 (k.lines.length : Nat)] wr fun e w2 => ∃ ao m cap z, e = .returned (.tuple #[.agg #[.slice ao m cap, .int .i64 z], .iface 93 (.int .i64 1)]) ∧ Below wr.heap.size wr w2) := fun wr hb => by
    have h := CW (k.lines.length : Int) (C.frame hK (KTouch.of (M := []) hb) (fun m hm => (by cases hm))) hk hp
    have hno : noLine k k.lines.length = true := by
      unfold noLine
      rw [Bool.or_eq_true]
      exact Or.inr (decide_eq_true (Int.le_refl _))
    rw [hno] at h
    refine h.mono ?_
    rintro e w2 ⟨u, rfl, h1, _, h3⟩
    obtain ⟨ao, cap, rfl⟩ := h1.form
    exact ⟨_, _, _, _, rfl, h3⟩
  clear hK hk hp
  go_enter Tryz.func40, Tryz.ntmps40
  go_wp2
  go_loopw [6, 13] (fun v i wr => ∃ (n : Nat) (us : List (Value × Int)), n ≤ k.lines.length ∧ i = .int .i64 n ∧ us.length = n ∧ wr.ownsRow W.heap.size 100 2 v n (hdCells us) ∧ HdAt W wr v us k.lines ∧ Below W.heap.size W wr) (fun _ i _ => k.lines.length - (intOf i).toNat)
  case atStart => exact ⟨0, [], Nat.zero_le _, rfl, rfl, World.ownsRow_nil _ _ _ _, fun i u l hu => (by simp at hu), Below.refl _ _⟩
  case round =>
  obtain ⟨n, us, hn, rfl, hul, own, hat, hb⟩ := hrel
  obtain ⟨va, vc, rfl⟩ := sl_form own
  by_cases hnl : n < k.lines.length
  · have hni : (n : Int) < (k.lines.length : Int) := by omega
    obtain ⟨l, hl⟩ : ∃ l, k.lines[n]? = some l := ⟨_, List.getElem?_eq_getElem hnl⟩
    have HL : Hid (k.lines[n]? = some l) := hl
    have HU : Hid (us.length = n) := hul
    have hq := HT.out n l wr hl hb
    clear hl hul
    go_wp2_with (first
      | (go_at_call 41; refine hq.mono ?_; rintro e w2 ⟨ao, m, cap, rfl, hrd, hown, b2⟩; have own2 := own_block own (fun k hk => b2.block k (own.lt k hk).2); have hs2 := b2.size; have hsb := hb.size)
      | (at_builtin; refine wpList_append_at _ rfl _ _ 96 rfl W.heap.size 100 jj _ 2 32 Tryz.underlying96 hj hy0 hy1 hy2 rfl (by decide) _ _ _ rfl ((own2.alloc _).alloc _) ⟨w2.heap.size + 1, 0, none⟩ 1 1 [.slice ao m cap, .int .i64 l.ls] rfl rfl (hd_new (by simp) _ _ _) (hdCells_one _ _ ⟨_, _, _, rfl⟩) (by unfold maxLen; omega) (by omega) (by simp; omega) ?_; intro v1 w8 own8 hg8 hnw8))
    have hb3 : Below W.heap.size W w2 := hb.trans (b2.mono hb.size)
    have hb8 : Below W.heap.size W w8 := ((hb3.alloc (by omega) _).alloc (by simp; omega) _).grown hg8 (by simp; omega) (fun k hk => (own2.lt k hk).1)
    have hat8 := hat.next HU.out HL.out hsb b2 hrd hown (fun g hg => (own.lt g hg).2) (((Below.refl _ w2).alloc (Nat.le_refl _) _).alloc (by simp) _) hg8 hnw8
    obtain ⟨g8, cap8, rfl⟩ := own_succ own8
    go_wp2
    go_roundw
    case rel => exact ⟨n + 1, us ++ [(.slice ao m cap, l.ls)], by omega, by go_num, by simp [HU.out], by rw [hdCells_snoc]; exact own8, hat8, hb8⟩
    case measure => simp [intOf]; omega
  obtain rfl : n = k.lines.length := by omega
  have hni : decide ((k.lines.length : Int) < (k.lines.length : Int)) = false := decide_eq_false (by omega)
  have hnn : decide (k.lines.length < k.lines.length) = false := decide_eq_false (by omega)
  have HU : Hid (us.length = k.lines.length) := hul
  clear hnl hn hul
  go_wp2_with (first
    | (go_at_call 41; refine (HN.out _ hb).mono ?_; rintro e w2 ⟨ao, m, cap, z, rfl, b2⟩)
    | go_region)
  all_goals
    go_wp2_with fail
    go_ret2
    have hb3 : Below W.heap.size W w2 := hb.trans (b2.mono hb.size)
    have hs3 := hb3.size
    have hbx : ∀ w', Below w2.heap.size w2 w' → wr.heap.size ≤ w'.heap.size ∧ Below wr.heap.size wr w' := fun w' h => ⟨Nat.le_trans b2.size h.size, b2.trans (h.mono b2.size)⟩
    have fin : ∀ w', Below wr.heap.size wr w' → us.length = k.lines.length ∧ w'.ownsRow W.heap.size 100 2 (.slice va k.lines.length vc) us.length (hdCells us) ∧ HdAt W w' (.slice va k.lines.length vc) us k.lines ∧ Below W.heap.size W w' := fun w' h => by
      refine ⟨HU.out, ?_, fun i u l hu hl => ?_, hb.trans (h.mono hb.size)⟩
      · rw [HU.out]
        exact own_block own (fun g hg => h.block g (own.lt g hg).2)
      · obtain ⟨q1, q2, q3⟩ := hat i u l hu hl
        exact ⟨q1, q2.all h, fun g hg => ⟨(q3 g hg).1, Nat.lt_of_lt_of_le (q3 g hg).2.1 h.size, (q3 g hg).2.2⟩⟩
    refine ⟨_, us, rfl, fin _ ?_⟩
    refine b2.trans ?_
    have := b2.size
    repeat' first | exact Below.refl _ _ | refine Below.drew ?_ | refine Below.alloc ?_ (by first | omega | (simp; omega)) _
end Go.Proofs.YtajfgmlockjmhaiGreatDoor
namespace Go.Proofs.YtajfgmlockjmhaiGreatDoor
open Go.RowKit

theorem stCells_next {l : List St} {n : Nat} {s : St} (h : l[n]? = some s) : stCells (l.take (n + 1)) = stCells (l.take n) ++ [.int .i64 s.p, .int .i64 (s.c 0), .int .i64 (s.c 1), .int .i64 (s.c 2), .int .i64 (s.c 3), .int .i64 (s.c 4), .int .i64 (s.c 5), .bool s.f] := by
  obtain ⟨hk, rfl⟩ := List.getElem?_eq_some_iff.1 h
  rw [List.take_succ_eq_append_getElem hk, stCells_snoc]
set_option maxRecDepth 100000 in
set_option maxHeartbeats 8000000 in
theorem all_st {G : World → Prop} (C : KerC G) {w0 W : World} {p : PD} {vc vs vw : Value} {k : KD} {kb : Nat} {F : List Nat} (hK : C.K w0 W p vc vs vw k kb F) (hk : KOk p k) (hp : plchk p = 0) :
    Calls Tryz.prog 39 #[.int .i64 (k.rooms.length : Nat), .func (.func 32) #[.pointer (some ⟨kb, 0, none⟩)] #[]] W fun e w' => ∃ v, e = .returned (.tuple #[v, .bool true]) ∧ w'.ownsRow W.heap.size 73 8 v k.rooms.length (stCells k.rooms) ∧ Below W.heap.size W w' := by
  obtain ⟨jj, hj, hy0, hy1, hy2⟩ := info_parts infoSt
  have hn5 : k.rooms.length ≤ 5 := by rw [hk.rl]; exact (plchk_zero hp).1
  have HT : Hid (∀ (i : Nat) s wr, k.rooms[i]? = some s → Below W.heap.size W wr → Calls Tryz.prog 32 #[.pointer (some ⟨kb, 0, none⟩), .int .i64 i] wr fun e w2 => e = .returned (.tuple #[.agg #[.int .i64 s.p, .int .i64 (s.c 0), .int .i64 (s.c 1), .int .i64 (s.c 2), .int .i64 (s.c 3), .int .i64 (s.c 4), .int .i64 (s.c 5), .bool s.f], .nilIface]) ∧ Below wr.heap.size wr w2) := fun i s wr hs hb => by
    have h := C.state (i : Int) (C.frame hK (KTouch.of (M := []) hb) (fun m hm => (by cases hm))) hk hp
    have hi := (List.getElem?_eq_some_iff.1 hs).1
    have hno : noRoom k i = false := by
      unfold noRoom
      rw [Bool.or_eq_false_iff]
      exact ⟨decide_eq_false (by omega), decide_eq_false (by omega)⟩
    have hrk : roomK k i = s := by
      unfold roomK
      rw [if_neg (by rw [hno]; decide), Int.toNat_natCast, List.getD_eq_getElem?_getD, hs]
      rfl
    rw [hno, hrk] at h
    exact h
  have HN : Hid (∀ wr, Below W.heap.size W wr → Calls Tryz.prog 32 #[.pointer (some ⟨kb, 0, none⟩), .int .i64 (k.rooms.length : Nat)] wr fun e w2 => ∃ x0 x1 x2 x3 x4 x5 x6 x7, e = .returned (.tuple #[.agg #[.int .i64 x0, .int .i64 x1, .int .i64 x2, .int .i64 x3, .int .i64 x4, .int .i64 x5, .int .i64 x6, .bool x7], .iface 93 (.int .i64 1)]) ∧ Below wr.heap.size wr w2) := fun wr hb => by
    have h := C.state (k.rooms.length : Int) (C.frame hK (KTouch.of (M := []) hb) (fun m hm => (by cases hm))) hk hp
    have hno : noRoom k k.rooms.length = true := by
      unfold noRoom
      rw [Bool.or_eq_true]
      exact Or.inr (decide_eq_true (Int.le_refl _))
    rw [hno] at h
    refine h.mono ?_
    rintro e w2 ⟨rfl, b2⟩
    exact ⟨_, _, _, _, _, _, _, _, rfl, b2⟩
  have HA : Hid (stCells (k.rooms.take k.rooms.length) = stCells k.rooms) := by show _ = _; rw [List.take_length]
  clear hK hk hp
  go_enter Tryz.func39, Tryz.ntmps39
  go_wp2
  go_loopw [6, 13] (fun v i wr => ∃ n : Nat, n ≤ k.rooms.length ∧ i = .int .i64 n ∧ wr.ownsRow W.heap.size 73 8 v n (stCells (k.rooms.take n)) ∧ Below W.heap.size W wr) (fun _ i _ => k.rooms.length - (intOf i).toNat)
  case atStart => exact ⟨0, Nat.zero_le _, rfl, World.ownsRow_nil _ _ _ _, Below.refl _ _⟩
  case round =>
  obtain ⟨n, hn, rfl, own, hb⟩ := hrel
  obtain ⟨va, vc, rfl⟩ := sl_form own
  by_cases hnl : n < k.rooms.length
  · have hni : (n : Int) < (k.rooms.length : Int) := by omega
    obtain ⟨s, hs⟩ : ∃ s, k.rooms[n]? = some s := ⟨_, List.getElem?_eq_getElem hnl⟩
    have HS : Hid (stCells (k.rooms.take (n + 1)) = stCells (k.rooms.take n) ++ [.int .i64 s.p, .int .i64 (s.c 0), .int .i64 (s.c 1), .int .i64 (s.c 2), .int .i64 (s.c 3), .int .i64 (s.c 4), .int .i64 (s.c 5), .bool s.f]) := stCells_next hs
    have hq := HT.out n s wr hs hb
    clear hs
    go_wp2_with (first
      | (go_at_call 32; refine hq.mono ?_; rintro e w2 ⟨rfl, b2⟩; have own2 := own_block own (fun k hk => b2.block k (own.lt k hk).2); have hs2 := b2.size; have hsb := hb.size)
      | (at_builtin; refine wpList_append_at _ rfl _ _ 63 rfl W.heap.size 73 jj _ 8 64 Tryz.underlying63 hj hy0 hy1 hy2 rfl (by decide) _ _ _ rfl ((own2.alloc _).alloc _) ⟨w2.heap.size + 1, 0, none⟩ 1 1 [.int .i64 s.p, .int .i64 (s.c 0), .int .i64 (s.c 1), .int .i64 (s.c 2), .int .i64 (s.c 3), .int .i64 (s.c 4), .int .i64 (s.c 5), .bool s.f] rfl rfl (st_new (by simp) s _) (st_one s) (by unfold maxLen; omega) (by omega) (by simp; omega) ?_; intro v1 w8 own8 hg8 hnw8))
    have hb3 : Below W.heap.size W w2 := hb.trans (b2.mono hb.size)
    have hb8 : Below W.heap.size W w8 := ((hb3.alloc (by omega) _).alloc (by simp; omega) _).grown hg8 (by simp; omega) (fun k hk => (own2.lt k hk).1)
    obtain ⟨g8, cap8, rfl⟩ := own_succ own8
    go_wp2
    go_roundw
    case rel => exact ⟨n + 1, by omega, by go_num, by rw [HS.out]; exact own8, hb8⟩
    case measure => simp [intOf]; omega
  obtain rfl : n = k.rooms.length := by omega
  have hni : decide ((k.rooms.length : Int) < (k.rooms.length : Int)) = false := decide_eq_false (by omega)
  have hnn : decide (k.rooms.length < k.rooms.length) = false := decide_eq_false (by omega)
  rw [HA.out] at own
  clear hnl hn
  go_wp2_with (first
    | (go_at_call 32; refine (HN.out _ hb).mono ?_; rintro e w2 ⟨x0, x1, x2, x3, x4, x5, x6, x7, rfl, b2⟩)
    | go_region)
  all_goals
    go_wp2_with fail
    go_ret2
    refine ⟨_, rfl, ?_, ?_⟩
    · have own2 := own_block own (fun k hk => b2.block k (own.lt k hk).2)
      first | exact own2.alloc _ | exact (own2.alloc _).drew
    · have hb3 : Below W.heap.size W w2 := hb.trans (b2.mono hb.size)
      have := hb3.size
      repeat' first | exact hb3 | refine Below.drew ?_ | refine Below.alloc ?_ (by first | omega | (simp; omega)) _
end Go.Proofs.YtajfgmlockjmhaiGreatDoor
