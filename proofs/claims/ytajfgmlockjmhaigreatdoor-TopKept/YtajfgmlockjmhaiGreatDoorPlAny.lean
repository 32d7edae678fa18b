/-
  slices.ContainsFunc with package plan's closures: is there one of a kind, by what the closure answers.
-/
import Derived.Test.YtajfgmlockjmhaiGreatDoorJt2
import Derived.Test.YtajfgmlockjmhaiGreatDoorJt1
namespace Go.Proofs.YtajfgmlockjmhaiGreatDoor
open Go.RowKit

theorem cany_hit {α : Type} {p : α → Bool} {l : List α} {k : Nat} {o : α} (h : l[k]? = some o) (hp : p o = true) : l.any p = true := List.any_eq_true.2 ⟨o, List.mem_of_getElem? h, hp⟩
theorem cany_miss {α : Type} {p : α → Bool} {l : List α} (h : ∀ (i : Nat) x, i < l.length → l[i]? = some x → p x = false) : l.any p = false := any_false h
set_option maxRecDepth 100000 in
set_option maxHeartbeats 2000000 in
theorem idx_spn_nil (fn : Value) (a : Option Addr) (cap : Nat) (w : World) :
    Calls Tryz.prog 135 #[.slice a 0 cap, fn] w fun e w' => e = .returned (.int .i64 (-1)) ∧ Below w.heap.size w w' := by
  go_enter Tryz.func135, Tryz.ntmps135
  go_wp2
  refine wp_loop_rounds 1 ?_
  rw [rounds_succ]
  go_wp2
  go_ret
  exact ⟨rfl, Below.refl _ _⟩
set_option maxRecDepth 100000 in
set_option maxHeartbeats 2000000 in
theorem idx_wrn_nil (fn : Value) (a : Option Addr) (cap : Nat) (w : World) :
    Calls Tryz.prog 136 #[.slice a 0 cap, fn] w fun e w' => e = .returned (.int .i64 (-1)) ∧ Below w.heap.size w w' := by
  go_enter Tryz.func136, Tryz.ntmps136
  go_wp2
  refine wp_loop_rounds 1 ?_
  rw [rounds_succ]
  go_wp2
  go_ret
  exact ⟨rfl, Below.refl _ _⟩
set_option maxRecDepth 100000 in
set_option maxHeartbeats 2000000 in
theorem idx_inn_nil (fn : Value) (a : Option Addr) (cap : Nat) (w : World) :
    Calls Tryz.prog 160 #[.slice a 0 cap, fn] w fun e w' => e = .returned (.int .i64 (-1)) ∧ Below w.heap.size w w' := by
  go_enter Tryz.func160, Tryz.ntmps160
  go_wp2
  refine wp_loop_rounds 1 ?_
  rw [rounds_succ]
  go_wp2
  go_ret
  exact ⟨rfl, Below.refl _ _⟩
set_option maxRecDepth 100000 in
set_option maxHeartbeats 2000000 in
theorem idx_more1 (l : List S3) (P : S3 → Bool) (b off cap rb : Nat) (w : World) (hlen : l.length ≤ 12) (hlt : b < w.heap.size) (hc : SpC w b off l)
    (hcl : ∀ W, Below w.heap.size w W → ∀ o ∈ l, Calls Tryz.prog 95 #[.agg #[.int .i64 o.1, .int .i64 o.2.1, .int .i64 o.2.2], .pointer (some ⟨rb, 0, none⟩)] W fun e w' => e = .returned (.bool (P o)) ∧ Below W.heap.size W w') :
    Calls Tryz.prog 135 #[.slice (some ⟨b, off, none⟩) l.length cap, .func (.func 95) #[] #[.pointer (some ⟨rb, 0, none⟩)]] w fun e w' =>
      (∃ r : Int, e = .returned (.int .i64 r) ∧ decide (0 ≤ r) = l.any P) ∧ Below w.heap.size w w' := by
  have HCL : Hid (∀ W, Below w.heap.size w W → ∀ o ∈ l, Calls Tryz.prog 95 #[.agg #[.int .i64 o.1, .int .i64 o.2.1, .int .i64 o.2.2], .pointer (some ⟨rb, 0, none⟩)] W fun e w' => e = .returned (.bool (P o)) ∧ Below W.heap.size W w') := hcl
  have HC : Hid (SpC w b off l) := hc
  clear hcl hc
  go_enter Tryz.func135, Tryz.ntmps135
  go_wp2
  go_loopw [8] (fun i wr => ∃ k : Nat, k ≤ l.length ∧ i = .int .i64 k ∧ Hid (∀ (j : Nat) x, j < k → l[j]? = some x → P x = false) ∧ Below w.heap.size w wr) (fun i _ => l.length - (intOf i).toNat)
  case atStart => exact ⟨0, Nat.zero_le _, rfl, fun j x hj => by omega, Below.refl _ _⟩
  case round =>
    obtain ⟨k, hk, rfl, Hall, hb⟩ := hrel
    by_cases hkl : k < l.length
    · obtain ⟨o, ho⟩ : ∃ o, l[k]? = some o := ⟨l[k], List.getElem?_eq_getElem hkl⟩
      have HO : Hid (l[k]? = some o) := ho
      obtain ⟨c0, c1, c2⟩ := HC.out.below hb hlt k o ho
      have hon := HCL.out wr hb o (List.mem_of_getElem? ho)
      clear ho
      cases hok : P o with
      | false =>
        have HN : Hid (P o = false) := hok
        rw [hok] at hon
        clear hok
        go_wp2_with (go_at_call 95; refine hon.mono ?_; rintro e w1 ⟨rfl, b1⟩; clear hon)
        go_roundw
        case rel => exact ⟨k + 1, by omega, by go_num, upto_next Hall.out HO.out HN.out, hb.trans (b1.mono hb.size)⟩
        case measure => simp [intOf]; omega
      | true =>
        have HF : Hid (l.any P = true) := cany_hit HO.out hok
        rw [hok] at hon
        clear hok
        go_wp2_with (go_at_call 95; refine hon.mono ?_; rintro e w1 ⟨rfl, b1⟩; clear hon)
        go_ret
        exact ⟨⟨_, rfl, by rw [HF.out]; simp⟩, hb.trans (b1.mono hb.size)⟩
    · have HF : Hid (l.any P = false) := cany_miss (fun i x hi hx => Hall.out i x (by omega) hx)
      go_wp2
      go_ret
      exact ⟨⟨_, rfl, by rw [HF.out]; simp⟩, hb⟩
set_option maxRecDepth 100000 in
set_option maxHeartbeats 2000000 in
theorem con_more1 (l : List S3) (P : S3 → Bool) (v : Value) (rb : Nat) (w : World) (hlen : l.length ≤ 12) (hv : Sps w v l)
    (hcl : ∀ W, Below w.heap.size w W → ∀ o ∈ l, Calls Tryz.prog 95 #[.agg #[.int .i64 o.1, .int .i64 o.2.1, .int .i64 o.2.2], .pointer (some ⟨rb, 0, none⟩)] W fun e w' => e = .returned (.bool (P o)) ∧ Below W.heap.size W w') :
    Calls Tryz.prog 94 #[v, .func (.func 95) #[] #[.pointer (some ⟨rb, 0, none⟩)]] w fun e w' => e = .returned (.bool (l.any P)) ∧ Below w.heap.size w w' := by
  have h : ∃ ao n cap, v = .slice ao n cap ∧ Calls Tryz.prog 135 #[.slice ao n cap, .func (.func 95) #[] #[.pointer (some ⟨rb, 0, none⟩)]] w fun e w' => (∃ r : Int, e = .returned (.int .i64 r) ∧ decide (0 ≤ r) = l.any P) ∧ Below w.heap.size w w' := by
    rcases hv with ⟨rfl, ao, cap, rfl⟩ | ⟨b, off, cap, rfl, _, hlt, hc⟩
    · refine ⟨ao, 0, cap, rfl, (idx_spn_nil _ ao cap w).mono ?_⟩
      rintro e w' ⟨rfl, hb⟩
      exact ⟨⟨_, rfl, by simp⟩, hb⟩
    · exact ⟨_, _, cap, rfl, idx_more1 l P b off cap rb w hlen hlt hc hcl⟩
  obtain ⟨ao, n, cap, rfl, h⟩ := h
  clear hv hcl
  go_enter Tryz.func94, Tryz.ntmps94
  go_wp2_with (go_at_call 135; refine h.mono ?_; rintro e w1 ⟨⟨r, rfl, hr⟩, bb⟩; clear h; have HR : Hid (decide (0 ≤ r) = l.any P) := hr; clear hr)
  go_ret
  exact ⟨ret_bool HR.out, bb⟩
set_option maxRecDepth 100000 in
set_option maxHeartbeats 2000000 in
theorem idx_more2 (l : List W4) (P : W4 → Bool) (b off cap rb : Nat) (w : World) (hlen : l.length ≤ 12) (hlt : b < w.heap.size) (hc : WrC w b off l)
    (hcl : ∀ W, Below w.heap.size w W → ∀ o ∈ l, Calls Tryz.prog 97 #[.agg #[.int .i64 o.1, .int .i64 o.2.1, .int .i64 o.2.2.1, .int .i64 o.2.2.2], .pointer (some ⟨rb, 0, none⟩)] W fun e w' => e = .returned (.bool (P o)) ∧ Below W.heap.size W w') :
    Calls Tryz.prog 136 #[.slice (some ⟨b, off, none⟩) l.length cap, .func (.func 97) #[] #[.pointer (some ⟨rb, 0, none⟩)]] w fun e w' =>
      (∃ r : Int, e = .returned (.int .i64 r) ∧ decide (0 ≤ r) = l.any P) ∧ Below w.heap.size w w' := by
  have HCL : Hid (∀ W, Below w.heap.size w W → ∀ o ∈ l, Calls Tryz.prog 97 #[.agg #[.int .i64 o.1, .int .i64 o.2.1, .int .i64 o.2.2.1, .int .i64 o.2.2.2], .pointer (some ⟨rb, 0, none⟩)] W fun e w' => e = .returned (.bool (P o)) ∧ Below W.heap.size W w') := hcl
  have HC : Hid (WrC w b off l) := hc
  clear hcl hc
  go_enter Tryz.func136, Tryz.ntmps136
  go_wp2
  go_loopw [8] (fun i wr => ∃ k : Nat, k ≤ l.length ∧ i = .int .i64 k ∧ Hid (∀ (j : Nat) x, j < k → l[j]? = some x → P x = false) ∧ Below w.heap.size w wr) (fun i _ => l.length - (intOf i).toNat)
  case atStart => exact ⟨0, Nat.zero_le _, rfl, fun j x hj => by omega, Below.refl _ _⟩
  case round =>
    obtain ⟨k, hk, rfl, Hall, hb⟩ := hrel
    by_cases hkl : k < l.length
    · obtain ⟨o, ho⟩ : ∃ o, l[k]? = some o := ⟨l[k], List.getElem?_eq_getElem hkl⟩
      have HO : Hid (l[k]? = some o) := ho
      obtain ⟨c0, c1, c2, c3⟩ := HC.out.below hb hlt k o ho
      have hon := HCL.out wr hb o (List.mem_of_getElem? ho)
      clear ho
      cases hok : P o with
      | false =>
        have HN : Hid (P o = false) := hok
        rw [hok] at hon
        clear hok
        go_wp2_with (go_at_call 97; refine hon.mono ?_; rintro e w1 ⟨rfl, b1⟩; clear hon)
        go_roundw
        case rel => exact ⟨k + 1, by omega, by go_num, upto_next Hall.out HO.out HN.out, hb.trans (b1.mono hb.size)⟩
        case measure => simp [intOf]; omega
      | true =>
        have HF : Hid (l.any P = true) := cany_hit HO.out hok
        rw [hok] at hon
        clear hok
        go_wp2_with (go_at_call 97; refine hon.mono ?_; rintro e w1 ⟨rfl, b1⟩; clear hon)
        go_ret
        exact ⟨⟨_, rfl, by rw [HF.out]; simp⟩, hb.trans (b1.mono hb.size)⟩
    · have HF : Hid (l.any P = false) := cany_miss (fun i x hi hx => Hall.out i x (by omega) hx)
      go_wp2
      go_ret
      exact ⟨⟨_, rfl, by rw [HF.out]; simp⟩, hb⟩
set_option maxRecDepth 100000 in
set_option maxHeartbeats 2000000 in
theorem con_more2 (l : List W4) (P : W4 → Bool) (v : Value) (rb : Nat) (w : World) (hlen : l.length ≤ 12) (hv : Wrs w v l)
    (hcl : ∀ W, Below w.heap.size w W → ∀ o ∈ l, Calls Tryz.prog 97 #[.agg #[.int .i64 o.1, .int .i64 o.2.1, .int .i64 o.2.2.1, .int .i64 o.2.2.2], .pointer (some ⟨rb, 0, none⟩)] W fun e w' => e = .returned (.bool (P o)) ∧ Below W.heap.size W w') :
    Calls Tryz.prog 96 #[v, .func (.func 97) #[] #[.pointer (some ⟨rb, 0, none⟩)]] w fun e w' => e = .returned (.bool (l.any P)) ∧ Below w.heap.size w w' := by
  have h : ∃ ao n cap, v = .slice ao n cap ∧ Calls Tryz.prog 136 #[.slice ao n cap, .func (.func 97) #[] #[.pointer (some ⟨rb, 0, none⟩)]] w fun e w' => (∃ r : Int, e = .returned (.int .i64 r) ∧ decide (0 ≤ r) = l.any P) ∧ Below w.heap.size w w' := by
    rcases hv with ⟨rfl, ao, cap, rfl⟩ | ⟨b, off, cap, rfl, _, hlt, hc⟩
    · refine ⟨ao, 0, cap, rfl, (idx_wrn_nil _ ao cap w).mono ?_⟩
      rintro e w' ⟨rfl, hb⟩
      exact ⟨⟨_, rfl, by simp⟩, hb⟩
    · exact ⟨_, _, cap, rfl, idx_more2 l P b off cap rb w hlen hlt hc hcl⟩
  obtain ⟨ao, n, cap, rfl, h⟩ := h
  clear hv hcl
  go_enter Tryz.func96, Tryz.ntmps96
  go_wp2_with (go_at_call 136; refine h.mono ?_; rintro e w1 ⟨⟨r, rfl, hr⟩, bb⟩; clear h; have HR : Hid (decide (0 ≤ r) = l.any P) := hr; clear hr)
  go_ret
  exact ⟨ret_bool HR.out, bb⟩
set_option maxRecDepth 100000 in
set_option maxHeartbeats 2000000 in
theorem idx_room1 (l : List Int) (P : Int → Bool) (b off cap vb rb : Nat) (w : World) (hlen : l.length ≤ 12) (hlt : b < w.heap.size) (hc : ∀ (i : Nat) z, l[i]? = some z → w.cell? ⟨b, off + i, none⟩ = some (.int .i64 z))
    (hcl : ∀ W, Below w.heap.size w W → ∀ o ∈ l, Calls Tryz.prog 141 #[.int .i64 o, .pointer (some ⟨vb, 0, none⟩), .pointer (some ⟨rb, 0, none⟩)] W fun e w' => e = .returned (.bool (P o)) ∧ Below W.heap.size W w') :
    Calls Tryz.prog 160 #[.slice (some ⟨b, off, none⟩) l.length cap, .func (.func 141) #[] #[.pointer (some ⟨vb, 0, none⟩), .pointer (some ⟨rb, 0, none⟩)]] w fun e w' =>
      (∃ r : Int, e = .returned (.int .i64 r) ∧ decide (0 ≤ r) = l.any P) ∧ Below w.heap.size w w' := by
  have HCL : Hid (∀ W, Below w.heap.size w W → ∀ o ∈ l, Calls Tryz.prog 141 #[.int .i64 o, .pointer (some ⟨vb, 0, none⟩), .pointer (some ⟨rb, 0, none⟩)] W fun e w' => e = .returned (.bool (P o)) ∧ Below W.heap.size W w') := hcl
  have HC : Hid (∀ (i : Nat) z, l[i]? = some z → w.cell? ⟨b, off + i, none⟩ = some (.int .i64 z)) := hc
  clear hcl hc
  go_enter Tryz.func160, Tryz.ntmps160
  go_wp2
  go_loopw [8] (fun i wr => ∃ k : Nat, k ≤ l.length ∧ i = .int .i64 k ∧ Hid (∀ (j : Nat) x, j < k → l[j]? = some x → P x = false) ∧ Below w.heap.size w wr) (fun i _ => l.length - (intOf i).toNat)
  case atStart => exact ⟨0, Nat.zero_le _, rfl, fun j x hj => by omega, Below.refl _ _⟩
  case round =>
    obtain ⟨k, hk, rfl, Hall, hb⟩ := hrel
    by_cases hkl : k < l.length
    · obtain ⟨o, ho⟩ : ∃ o, l[k]? = some o := ⟨l[k], List.getElem?_eq_getElem hkl⟩
      have HO : Hid (l[k]? = some o) := ho
      have c0 := (hb.cell (p := ⟨b, _, none⟩) hlt).trans (HC.out k o ho)
      have hon := HCL.out wr hb o (List.mem_of_getElem? ho)
      clear ho
      cases hok : P o with
      | false =>
        have HN : Hid (P o = false) := hok
        rw [hok] at hon
        clear hok
        go_wp2_with (go_at_call 141; refine hon.mono ?_; rintro e w1 ⟨rfl, b1⟩; clear hon)
        go_roundw
        case rel => exact ⟨k + 1, by omega, by go_num, upto_next Hall.out HO.out HN.out, hb.trans (b1.mono hb.size)⟩
        case measure => simp [intOf]; omega
      | true =>
        have HF : Hid (l.any P = true) := cany_hit HO.out hok
        rw [hok] at hon
        clear hok
        go_wp2_with (go_at_call 141; refine hon.mono ?_; rintro e w1 ⟨rfl, b1⟩; clear hon)
        go_ret
        exact ⟨⟨_, rfl, by rw [HF.out]; simp⟩, hb.trans (b1.mono hb.size)⟩
    · have HF : Hid (l.any P = false) := cany_miss (fun i x hi hx => Hall.out i x (by omega) hx)
      go_wp2
      go_ret
      exact ⟨⟨_, rfl, by rw [HF.out]; simp⟩, hb⟩
set_option maxRecDepth 100000 in
set_option maxHeartbeats 2000000 in
theorem con_room1 (l : List Int) (P : Int → Bool) (v : Value) (vb rb : Nat) (w : World) (hlen : l.length ≤ 12) (hv : Stp w v l)
    (hcl : ∀ W, Below w.heap.size w W → ∀ o ∈ l, Calls Tryz.prog 141 #[.int .i64 o, .pointer (some ⟨vb, 0, none⟩), .pointer (some ⟨rb, 0, none⟩)] W fun e w' => e = .returned (.bool (P o)) ∧ Below W.heap.size W w') :
    Calls Tryz.prog 143 #[v, .func (.func 141) #[] #[.pointer (some ⟨vb, 0, none⟩), .pointer (some ⟨rb, 0, none⟩)]] w fun e w' => e = .returned (.bool (l.any P)) ∧ Below w.heap.size w w' := by
  have h : ∃ ao n cap, v = .slice ao n cap ∧ Calls Tryz.prog 160 #[.slice ao n cap, .func (.func 141) #[] #[.pointer (some ⟨vb, 0, none⟩), .pointer (some ⟨rb, 0, none⟩)]] w fun e w' => (∃ r : Int, e = .returned (.int .i64 r) ∧ decide (0 ≤ r) = l.any P) ∧ Below w.heap.size w w' := by
    rcases hv with ⟨rfl, ao, cap, rfl⟩ | ⟨b, off, cap, rfl, hlt, hc⟩
    · refine ⟨ao, 0, cap, rfl, (idx_inn_nil _ ao cap w).mono ?_⟩
      rintro e w' ⟨rfl, hb⟩
      exact ⟨⟨_, rfl, by simp⟩, hb⟩
    · exact ⟨_, _, cap, rfl, idx_room1 l P b off cap vb rb w hlen hlt hc hcl⟩
  obtain ⟨ao, n, cap, rfl, h⟩ := h
  clear hv hcl
  go_enter Tryz.func143, Tryz.ntmps143
  go_wp2_with (go_at_call 160; refine h.mono ?_; rintro e w1 ⟨⟨r, rfl, hr⟩, bb⟩; clear h; have HR : Hid (decide (0 ≤ r) = l.any P) := hr; clear hr)
  go_ret
  exact ⟨ret_bool HR.out, bb⟩
set_option maxRecDepth 100000 in
set_option maxHeartbeats 2000000 in
theorem idx_room2 (l : List Int) (P : Int → Bool) (b off cap vb rb : Nat) (w : World) (hlen : l.length ≤ 12) (hlt : b < w.heap.size) (hc : ∀ (i : Nat) z, l[i]? = some z → w.cell? ⟨b, off + i, none⟩ = some (.int .i64 z))
    (hcl : ∀ W, Below w.heap.size w W → ∀ o ∈ l, Calls Tryz.prog 142 #[.int .i64 o, .pointer (some ⟨vb, 0, none⟩), .pointer (some ⟨rb, 0, none⟩)] W fun e w' => e = .returned (.bool (P o)) ∧ Below W.heap.size W w') :
    Calls Tryz.prog 160 #[.slice (some ⟨b, off, none⟩) l.length cap, .func (.func 142) #[] #[.pointer (some ⟨vb, 0, none⟩), .pointer (some ⟨rb, 0, none⟩)]] w fun e w' =>
      (∃ r : Int, e = .returned (.int .i64 r) ∧ decide (0 ≤ r) = l.any P) ∧ Below w.heap.size w w' := by
  have HCL : Hid (∀ W, Below w.heap.size w W → ∀ o ∈ l, Calls Tryz.prog 142 #[.int .i64 o, .pointer (some ⟨vb, 0, none⟩), .pointer (some ⟨rb, 0, none⟩)] W fun e w' => e = .returned (.bool (P o)) ∧ Below W.heap.size W w') := hcl
  have HC : Hid (∀ (i : Nat) z, l[i]? = some z → w.cell? ⟨b, off + i, none⟩ = some (.int .i64 z)) := hc
  clear hcl hc
  go_enter Tryz.func160, Tryz.ntmps160
  go_wp2
  go_loopw [8] (fun i wr => ∃ k : Nat, k ≤ l.length ∧ i = .int .i64 k ∧ Hid (∀ (j : Nat) x, j < k → l[j]? = some x → P x = false) ∧ Below w.heap.size w wr) (fun i _ => l.length - (intOf i).toNat)
  case atStart => exact ⟨0, Nat.zero_le _, rfl, fun j x hj => by omega, Below.refl _ _⟩
  case round =>
    obtain ⟨k, hk, rfl, Hall, hb⟩ := hrel
    by_cases hkl : k < l.length
    · obtain ⟨o, ho⟩ : ∃ o, l[k]? = some o := ⟨l[k], List.getElem?_eq_getElem hkl⟩
      have HO : Hid (l[k]? = some o) := ho
      have c0 := (hb.cell (p := ⟨b, _, none⟩) hlt).trans (HC.out k o ho)
      have hon := HCL.out wr hb o (List.mem_of_getElem? ho)
      clear ho
      cases hok : P o with
      | false =>
        have HN : Hid (P o = false) := hok
        rw [hok] at hon
        clear hok
        go_wp2_with (go_at_call 142; refine hon.mono ?_; rintro e w1 ⟨rfl, b1⟩; clear hon)
        go_roundw
        case rel => exact ⟨k + 1, by omega, by go_num, upto_next Hall.out HO.out HN.out, hb.trans (b1.mono hb.size)⟩
        case measure => simp [intOf]; omega
      | true =>
        have HF : Hid (l.any P = true) := cany_hit HO.out hok
        rw [hok] at hon
        clear hok
        go_wp2_with (go_at_call 142; refine hon.mono ?_; rintro e w1 ⟨rfl, b1⟩; clear hon)
        go_ret
        exact ⟨⟨_, rfl, by rw [HF.out]; simp⟩, hb.trans (b1.mono hb.size)⟩
    · have HF : Hid (l.any P = false) := cany_miss (fun i x hi hx => Hall.out i x (by omega) hx)
      go_wp2
      go_ret
      exact ⟨⟨_, rfl, by rw [HF.out]; simp⟩, hb⟩
set_option maxRecDepth 100000 in
set_option maxHeartbeats 2000000 in
theorem con_room2 (l : List Int) (P : Int → Bool) (v : Value) (vb rb : Nat) (w : World) (hlen : l.length ≤ 12) (hv : Stp w v l)
    (hcl : ∀ W, Below w.heap.size w W → ∀ o ∈ l, Calls Tryz.prog 142 #[.int .i64 o, .pointer (some ⟨vb, 0, none⟩), .pointer (some ⟨rb, 0, none⟩)] W fun e w' => e = .returned (.bool (P o)) ∧ Below W.heap.size W w') :
    Calls Tryz.prog 143 #[v, .func (.func 142) #[] #[.pointer (some ⟨vb, 0, none⟩), .pointer (some ⟨rb, 0, none⟩)]] w fun e w' => e = .returned (.bool (l.any P)) ∧ Below w.heap.size w w' := by
  have h : ∃ ao n cap, v = .slice ao n cap ∧ Calls Tryz.prog 160 #[.slice ao n cap, .func (.func 142) #[] #[.pointer (some ⟨vb, 0, none⟩), .pointer (some ⟨rb, 0, none⟩)]] w fun e w' => (∃ r : Int, e = .returned (.int .i64 r) ∧ decide (0 ≤ r) = l.any P) ∧ Below w.heap.size w w' := by
    rcases hv with ⟨rfl, ao, cap, rfl⟩ | ⟨b, off, cap, rfl, hlt, hc⟩
    · refine ⟨ao, 0, cap, rfl, (idx_inn_nil _ ao cap w).mono ?_⟩
      rintro e w' ⟨rfl, hb⟩
      exact ⟨⟨_, rfl, by simp⟩, hb⟩
    · exact ⟨_, _, cap, rfl, idx_room2 l P b off cap vb rb w hlen hlt hc hcl⟩
  obtain ⟨ao, n, cap, rfl, h⟩ := h
  clear hv hcl
  go_enter Tryz.func143, Tryz.ntmps143
  go_wp2_with (go_at_call 160; refine h.mono ?_; rintro e w1 ⟨⟨r, rfl, hr⟩, bb⟩; clear h; have HR : Hid (decide (0 ≤ r) = l.any P) := hr; clear hr)
  go_ret
  exact ⟨ret_bool HR.out, bb⟩
end Go.Proofs.YtajfgmlockjmhaiGreatDoor
