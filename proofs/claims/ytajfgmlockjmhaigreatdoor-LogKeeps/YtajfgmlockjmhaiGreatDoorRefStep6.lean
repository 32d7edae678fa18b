/-
  frameref1.Step: of any code and state that are right.
-/
import Derived.Test.YtajfgmlockjmhaiGreatDoorRefStep1
import Derived.Test.YtajfgmlockjmhaiGreatDoorRefStep2
import Derived.Test.YtajfgmlockjmhaiGreatDoorRefStep3
import Derived.Test.YtajfgmlockjmhaiGreatDoorRefStep4
import Derived.Test.YtajfgmlockjmhaiGreatDoorRefStep5
import Derived.Test.YtajfgmlockjmhaiGreatDoorRoomStep4
namespace Go.Proofs.YtajfgmlockjmhaiGreatDoor
open Go.RowKit

set_option maxRecDepth 100000 in
set_option maxHeartbeats 4000000 in
theorem rs_failed (v : Value) (p got : Int) (c : Nat → Int) (is : Bool) (w : World) :
    Calls Tryz.prog 132 #[v, .agg #[.int .i64 p, .int .i64 (c 0), .int .i64 (c 1), .int .i64 (c 2), .int .i64 (c 3), .int .i64 (c 4), .int .i64 (c 5), .bool true], .int .i64 got, .bool is] w fun e w' => (∃ q : Int, q = 5 ∧ e = .returned (.tuple #[stV ⟨p, c, true⟩, .int .i64 (-1), .int .i64 q])) ∧ Below w.heap.size w w' := by
  go_enter Tryz.func132, Tryz.ntmps132
  go_wp2
  refine bodyPost_ret (v := .tuple #[_, _, .int .i64 5]) ?_ rfl ⟨⟨_, rfl, rfl⟩, ?_⟩
  · simp [results, Tryz.results132, go_sem, stV]
  · repeat' first | exact Below.refl _ _ | refine Below.drew ?_ | refine Below.alloc ?_ (by simp <;> omega) _

theorem refstep_what (l : List O3) (v : Value) (s : St) (got : Int) (is : Bool) (w : World) (hl : Ops w v l) (h0 : rchk l s = 0) :
    Calls Tryz.prog 132 #[v, stV s, .int .i64 got, .bool is] w fun e w' => (∃ q : Int, q = whatF (l.getD s.p.toNat (0, 0, 0)) s is ∧ e = .returned (.tuple #[stV (stepF (l.getD s.p.toNat (0, 0, 0)) s l.length got is), .int .i64 (sendF (l.getD s.p.toNat (0, 0, 0)) s), .int .i64 q])) ∧ Below w.heap.size w w' := by
  obtain ⟨hc, hs⟩ := rchk_none h0
  obtain ⟨hl0, hl1, hl2⟩ := chk_zero hc
  obtain ⟨hp0, hp1, hp2⟩ := stOk_iff.1 hs
  obtain ⟨p, c, f⟩ := s
  simp only at hp0 hp1 hp2
  cases f with
  | true => exact (rs_failed v p got c is w).mono (fun e w' ⟨⟨q, hq, he⟩, hb⟩ => ⟨⟨q, by rw [hq]; simp [whatF], he⟩, hb⟩)
  | false =>
    obtain ⟨k, rfl⟩ : ∃ k : Nat, p = k := ⟨p.toNat, by omega⟩
    have hkl : k < l.length := by omega
    obtain ⟨o, ho⟩ : ∃ o, l[k]? = some o := ⟨l[k], List.getElem?_eq_getElem hkl⟩
    have hget : l.getD (k : Int).toNat (0, 0, 0) = o := by simp [List.getD, ho]
    rcases hl with ⟨rfl, _⟩ | ⟨b, off, cap, rfl, hlt, hcl⟩
    · exact absurd rfl hl0
    obtain ⟨c0, c1, c2⟩ := hcl k o ho
    have hok := hl2 o (List.mem_of_getElem? ho)
    have hr := ok3_range hok
    have hsm := ok3_small (by omega) hok
    simp only [hget]
    obtain ⟨n, a, bb⟩ := o
    simp only at hr hsm c0 c1 c2
    have fin : ∀ (pl sv wq : Int) (cc : Nat → Int) (fl : Bool), pl = nextF (n, a, bb) ⟨k, c, false⟩ l.length is → cc = cellsF (n, a, bb) c got is → fl = decide (n = 11) → sv = sentF (n, a, bb) c → wq = whatF (n, a, bb) ⟨k, c, false⟩ is →
        Calls Tryz.prog 132 #[.slice (some ⟨b, off, none⟩) l.length cap, stV ⟨k, c, false⟩, .int .i64 got, .bool is] w (fun e w' => (∃ q : Int, q = wq ∧ e = .returned (.tuple #[stV ⟨pl, cc, fl⟩, .int .i64 sv, .int .i64 q])) ∧ Below w.heap.size w w') →
        Calls Tryz.prog 132 #[.slice (some ⟨b, off, none⟩) l.length cap, stV ⟨k, c, false⟩, .int .i64 got, .bool is] w (fun e w' => (∃ q : Int, q = whatF (n, a, bb) ⟨k, c, false⟩ is ∧ e = .returned (.tuple #[stV (stepF (n, a, bb) ⟨k, c, false⟩ l.length got is), .int .i64 (sendF (n, a, bb) ⟨k, c, false⟩), .int .i64 q])) ∧ Below w.heap.size w w') := by
      rintro pl sv wq cc fl rfl rfl rfl rfl rfl h
      refine h.mono fun e w' ⟨⟨q, hq0, hq⟩, hb⟩ => ⟨⟨q, hq0, ?_⟩, hb⟩
      rw [hq]
      simp [stepF, sendF]
    have hgo : n ≠ 7 → ¬ (n = 6 ∧ c a.toNat = 0) → n ≠ 11 → ¬ (n = 9 ∧ is = false) → goOn k l.length = nextF (n, a, bb) ⟨k, c, false⟩ l.length is := fun h7 h6 h11 h9 => (nextF_on (o := (n, a, bb)) (s := ⟨k, c, false⟩) (n := l.length) (is := is) h7 h6 h11 h9).symm
    have h : n = 1 ∨ n = 2 ∨ n = 3 ∨ n = 4 ∨ n = 5 ∨ n = 6 ∨ n = 7 ∨ n = 8 ∨ n = 9 ∨ n = 10 ∨ n = 11 := by omega
    have ha : 0 ≤ a ∧ a ≤ 5 := ⟨hsm.2.2.1, hsm.2.2.2.1⟩
    rcases h with rfl | rfl | rfl | rfl | rfl | rfl | rfl | rfl | rfl | rfl | rfl
    · exact fin _ _ _ _ _ (hgo (by omega) (by omega) (by omega) (by omega)) rfl rfl rfl (by simp [whatF]) (rs_1 b off l.length cap k a bb got is c w hkl hl1 hlt ha c0 c1 c2)
    · obtain ⟨m, rfl⟩ : ∃ m : Nat, bb = m := ⟨bb.toNat, by omega⟩
      have hm : m ≤ 5 := by simp [bB] at hr; omega
      exact fin _ _ _ _ _ (hgo (by omega) (by omega) (by omega) (by omega)) (by simp [cellsF]) rfl rfl (by simp [whatF]) (rs_2 b off l.length cap k a m got is c w hkl hl1 hlt ha hm hp2 c0 c1 c2)
    · obtain ⟨m, rfl⟩ : ∃ m : Nat, bb = m := ⟨bb.toNat, by omega⟩
      have hm : m ≤ 5 := by simp [bB] at hr; omega
      exact fin _ _ _ _ _ (hgo (by omega) (by omega) (by omega) (by omega)) (by simp [cellsF]) rfl rfl (by simp [whatF]) (rs_3 b off l.length cap k a m got is c w hkl hl1 hlt ha hm hp2 c0 c1 c2)
    · obtain ⟨m, rfl⟩ : ∃ m : Nat, bb = m := ⟨bb.toNat, by omega⟩
      have hm : m ≤ 5 := by simp [bB] at hr; omega
      exact fin _ _ _ _ _ (hgo (by omega) (by omega) (by omega) (by omega)) (by simp [cellsF]) rfl rfl (by simp [whatF]) (rs_4 b off l.length cap k a m got is c w hkl hl1 hlt ha hm hp2 c0 c1 c2)
    · obtain ⟨m, rfl⟩ : ∃ m : Nat, bb = m := ⟨bb.toNat, by omega⟩
      have hm : m ≤ 5 := by simp [bB] at hr; omega
      exact fin _ _ _ _ _ (hgo (by omega) (by omega) (by omega) (by omega)) (by simp [cellsF]) rfl rfl (by simp [whatF]) (rs_5 b off l.length cap k a m got is c w hkl hl1 hlt ha hm hp2 c0 c1 c2)
    · by_cases hz : c a.toNat = 0
      · exact fin _ _ _ _ _ (by simp [nextF, hz]) rfl rfl rfl (by simp [whatF]) (rs_6_z b off l.length cap k a bb got is c w hkl hl1 hlt ha (by simpa using hz) c0 c1 c2)
      · exact fin _ _ _ _ _ (hgo (by omega) (by simp [hz]) (by omega) (by omega)) rfl rfl rfl (by simp [whatF]) (rs_6_n b off l.length cap k a bb got is c w hkl hl1 hlt ha (by simpa using hz) c0 c1 c2)
    · obtain rfl : a = 0 := by simp [bA] at hr; omega
      exact fin _ _ _ _ _ (by simp [nextF]) rfl rfl rfl (by simp [whatF]) (rs_7 b off l.length cap k 0 bb got is c w hkl hl1 hlt rfl c0 c1 c2)
    · exact fin _ _ _ _ _ (hgo (by omega) (by omega) (by omega) (by omega)) rfl rfl (by simp [sentF]) (by simp [whatF]) (rs_8 b off l.length cap k a bb got is c w hkl hl1 hlt ha c0 c1 c2)
    · cases is with
      | true => exact fin _ _ _ _ _ (hgo (by omega) (by omega) (by omega) (by simp)) (by simp [cellsF]) rfl rfl (by simp [whatF]) (rs_9_true b off l.length cap k a bb got c w hkl hl1 hlt ha c0 c1 c2)
      | false => exact fin _ _ _ _ _ (by simp [nextF]) (by simp [cellsF]) rfl rfl (by simp [whatF]) (rs_9_false b off l.length cap k a bb got c w hkl hl1 hlt ha c0 c1 c2)
    · obtain rfl : a = 0 := by simp [bA] at hr; omega
      exact fin _ _ _ _ _ (hgo (by omega) (by omega) (by omega) (by omega)) rfl rfl rfl (by simp [whatF]) (rs_10 b off l.length cap k 0 bb got is c w hkl hl1 hlt rfl c0 c1 c2)
    · obtain rfl : a = 0 := by simp [bA] at hr; omega
      exact fin _ _ _ _ _ (by simp [nextF]) rfl rfl rfl (by simp [whatF]) (rs_11 b off l.length cap k 0 bb got is c w hkl hl1 hlt rfl c0 c1 c2)
theorem refstep_any (l : List O3) (v : Value) (s : St) (got : Int) (is : Bool) (w : World) (hl : Ops w v l) (h0 : rchk l s = 0) :
    Calls Tryz.prog 132 #[v, stV s, .int .i64 got, .bool is] w fun e w' => (∃ q : Int, e = .returned (.tuple #[stV (stepF (l.getD s.p.toNat (0, 0, 0)) s l.length got is), .int .i64 (sendF (l.getD s.p.toNat (0, 0, 0)) s), .int .i64 q])) ∧ Below w.heap.size w w' :=
  (refstep_what l v s got is w hl h0).mono (fun _ _ ⟨⟨q, _, he⟩, hb⟩ => ⟨⟨q, he⟩, hb⟩)
end Go.Proofs.YtajfgmlockjmhaiGreatDoor
