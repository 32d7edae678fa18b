/-
  Package snap: all. All rooms of a kernel; all that its wires hold.
-/
import Derived.Test.YtajfgmlockjmhaiGreatDoorJt9
import Derived.Test.YtajfgmlockjmhaiGreatDoorJt4
import Derived.Test.YtajfgmlockjmhaiGreatDoorJt1
import Derived.Test.YtajfgmlockjmhaiGreatDoorJt2
import Derived.Deep.RegionLaw
import Derived.RangeFuncNested
namespace Go.Proofs.YtajfgmlockjmhaiGreatDoor
open Go.RowKit

theorem stCells_next {l : List St} {n : Nat} {s : St} (h : l[n]? = some s) : stCells (l.take (n + 1)) = stCells (l.take n) ++ [.int .i64 s.p, .int .i64 (s.c 0), .int .i64 (s.c 1), .int .i64 (s.c 2), .int .i64 (s.c 3), .int .i64 (s.c 4), .int .i64 (s.c 5), .bool s.f] := by
  obtain ⟨hk, rfl⟩ := List.getElem?_eq_some_iff.1 h
  rw [List.take_succ_eq_append_getElem hk, stCells_snoc]
set_option maxRecDepth 100000 in
set_option maxHeartbeats 8000000 in
theorem all_st {G : World → Prop} (C : KerC G) {w0 W : World} {p : PD} {vc vs vw : Value} {k : KD} {kb : Nat} {F : List Nat} (hK : C.K w0 W p vc vs vw k kb F) (hk : KOk p k) (hp : plchk p = 0) :
    Calls Tryz.prog 39 #[.int .i64 (k.rooms.length : Nat), .func (.func 32) #[.pointer (some ⟨kb, 0, none⟩)] #[]] W fun e w' => ∃ v, e = .returned (.tuple #[v, .bool true]) ∧ w'.ownsRow W.heap.size 73 8 v k.rooms.length (stCells k.rooms) ∧ Below W.heap.size W w' := by
  obtain ⟨jj, hj, hy0, hy1, hy2⟩ := info_parts infoSt
  have hn5 : k.rooms.length ≤ 5 := by rw [hk.rl]; exact (plchk_zero hp).1
  have HT : Hid (∀ (i : Nat) s wr, k.rooms[i]? = some s → Below W.heap.size W wr → Calls Tryz.prog 32 #[.pointer (some ⟨kb, 0, none⟩), .int .i64 i] wr fun e w2 => e = .returned (.tuple #[.agg #[.int .i64 s.p, .int .i64 (s.c 0), .int .i64 (s.c 1), .int .i64 (s.c 2), .int .i64 (s.c 3), .int .i64 (s.c 4), .int .i64 (s.c 5), .bool s.f], .nilIface]) ∧ Below wr.heap.size wr w2) := fun i s wr hs hb => by
    have h := C.state (i : Int) (C.frame hK (KTouch.of (M := []) hb) (fun m hm => (by cases hm))) hk hp
    have hi := (List.getElem?_eq_some_iff.1 hs).1
    have hno : noRoom k i = false := by
      unfold noRoom
      rw [Bool.or_eq_false_iff]
      exact ⟨decide_eq_false (by omega), decide_eq_false (by omega)⟩
    have hrk : roomK k i = s := by
      unfold roomK
      rw [if_neg (by rw [hno]; decide), Int.toNat_natCast, List.getD_eq_getElem?_getD, hs]
      rfl
    rw [hno, hrk] at h
    exact h
  have HN : Hid (∀ wr, Below W.heap.size W wr → Calls Tryz.prog 32 #[.pointer (some ⟨kb, 0, none⟩), .int .i64 (k.rooms.length : Nat)] wr fun e w2 => ∃ x0 x1 x2 x3 x4 x5 x6 x7, e = .returned (.tuple #[.agg #[.int .i64 x0, .int .i64 x1, .int .i64 x2, .int .i64 x3, .int .i64 x4, .int .i64 x5, .int .i64 x6, .bool x7], .iface 93 (.int .i64 1)]) ∧ Below wr.heap.size wr w2) := fun wr hb => by
    have h := C.state (k.rooms.length : Int) (C.frame hK (KTouch.of (M := []) hb) (fun m hm => (by cases hm))) hk hp
    have hno : noRoom k k.rooms.length = true := by
      unfold noRoom
      rw [Bool.or_eq_true]
      exact Or.inr (decide_eq_true (Int.le_refl _))
    rw [hno] at h
    refine h.mono ?_
    rintro e w2 ⟨rfl, b2⟩
    exact ⟨_, _, _, _, _, _, _, _, rfl, b2⟩
  have HA : Hid (stCells (k.rooms.take k.rooms.length) = stCells k.rooms) := by show _ = _; rw [List.take_length]
  clear hK hk hp
  go_enter Tryz.func39, Tryz.ntmps39
  go_wp2
  go_loopw [6, 13] (fun v i wr => ∃ n : Nat, n ≤ k.rooms.length ∧ i = .int .i64 n ∧ wr.ownsRow W.heap.size 73 8 v n (stCells (k.rooms.take n)) ∧ Below W.heap.size W wr) (fun _ i _ => k.rooms.length - (intOf i).toNat)
  case atStart => exact ⟨0, Nat.zero_le _, rfl, World.ownsRow_nil _ _ _ _, Below.refl _ _⟩
  case round =>
  obtain ⟨n, hn, rfl, own, hb⟩ := hrel
  obtain ⟨va, vc, rfl⟩ := sl_form own
  by_cases hnl : n < k.rooms.length
  · have hni : (n : Int) < (k.rooms.length : Int) := by omega
    obtain ⟨s, hs⟩ : ∃ s, k.rooms[n]? = some s := ⟨_, List.getElem?_eq_getElem hnl⟩
    have HS : Hid (stCells (k.rooms.take (n + 1)) = stCells (k.rooms.take n) ++ [.int .i64 s.p, .int .i64 (s.c 0), .int .i64 (s.c 1), .int .i64 (s.c 2), .int .i64 (s.c 3), .int .i64 (s.c 4), .int .i64 (s.c 5), .bool s.f]) := stCells_next hs
    have hq := HT.out n s wr hs hb
    clear hs
    go_wp2_with (first
      | (go_at_call 32; refine hq.mono ?_; rintro e w2 ⟨rfl, b2⟩; have own2 := own_block own (fun k hk => b2.block k (own.lt k hk).2); have hs2 := b2.size; have hsb := hb.size)
      | (at_builtin; refine wpList_append_at _ rfl _ _ 63 rfl W.heap.size 73 jj _ 8 64 Tryz.underlying63 hj hy0 hy1 hy2 rfl (by decide) _ _ _ rfl ((own2.alloc _).alloc _) ⟨w2.heap.size + 1, 0, none⟩ 1 1 [.int .i64 s.p, .int .i64 (s.c 0), .int .i64 (s.c 1), .int .i64 (s.c 2), .int .i64 (s.c 3), .int .i64 (s.c 4), .int .i64 (s.c 5), .bool s.f] rfl rfl (st_new (by simp) s _) (st_one s) (by unfold maxLen; omega) (by omega) (by simp; omega) ?_; intro v1 w8 own8 hg8 hnw8))
    have hb3 : Below W.heap.size W w2 := hb.trans (b2.mono hb.size)
    have hb8 : Below W.heap.size W w8 := ((hb3.alloc (by omega) _).alloc (by simp; omega) _).grown hg8 (by simp; omega) (fun k hk => (own2.lt k hk).1)
    obtain ⟨g8, cap8, rfl⟩ := own_succ own8
    go_wp2
    go_roundw
    case rel => exact ⟨n + 1, by omega, by go_num, by rw [HS.out]; exact own8, hb8⟩
    case measure => simp [intOf]; omega
  obtain rfl : n = k.rooms.length := by omega
  have hni : decide ((k.rooms.length : Int) < (k.rooms.length : Int)) = false := decide_eq_false (by omega)
  have hnn : decide (k.rooms.length < k.rooms.length) = false := decide_eq_false (by omega)
  rw [HA.out] at own
  clear hnl hn
  go_wp2_with (first
    | (go_at_call 32; refine (HN.out _ hb).mono ?_; rintro e w2 ⟨x0, x1, x2, x3, x4, x5, x6, x7, rfl, b2⟩)
    | go_region)
  all_goals
    go_wp2_with fail
    go_ret2
    refine ⟨_, rfl, ?_, ?_⟩
    · have own2 := own_block own (fun k hk => b2.block k (own.lt k hk).2)
      first | exact own2.alloc _ | exact (own2.alloc _).drew
    · have hb3 : Below W.heap.size W w2 := hb.trans (b2.mono hb.size)
      have := hb3.size
      repeat' first | exact hb3 | refine Below.drew ?_ | refine Below.alloc ?_ (by first | omega | (simp; omega)) _
end Go.Proofs.YtajfgmlockjmhaiGreatDoor
