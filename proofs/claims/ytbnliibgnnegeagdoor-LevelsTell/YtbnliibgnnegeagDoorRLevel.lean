/-
  frameref2.Level: a room's level, by the document.
-/
import Derived.Test.YtbnliibgnnegeagDoorLevM
import Derived.Test.YtbnliibgnnegeagDoorWaysL
import Derived.Deep.CutRange
import Derived.BigQuiet
namespace Go.Proofs.YtbnliibgnnegeagDoor
open Go.RowKit

set_option maxRecDepth 100000 in
set_option maxHeartbeats 8000000 in
theorem rlevel_go (l : List W4) (v : Value) (hlen : l.length ≤ 12) (hok : ∀ x ∈ l, w4chk x = 0) (n : Nat) (ih : ∀ (r : Nat) (w : World), r < 5 → rk l r < n → Wrs w v l → Calls Tryd.prog 7 #[v, .int .i64 r] w fun e w' => e = .returned (.int .i64 (lev l r : Int)) ∧ Below w.heap.size w w')
    (r : Nat) (w : World) (hr : r < 5) (hn : rk l r = n) (hl : Wrs w v l) : Calls Tryd.prog 7 #[v, .int .i64 r] w fun e w' => e = .returned (.int .i64 (lev l r : Int)) ∧ Below w.heap.size w w' := by
  have q1 := ways_any l v w hl hlen hok
  have HI : Hid (∀ (x : W4) (W : World), x ∈ l → ups l r x = true → Below w.heap.size w W → Calls Tryd.prog 7 #[v, .int .i64 (x.1.toNat : Int)] W fun e w' => e = .returned (.int .i64 (lev l x.1.toNat : Int)) ∧ Below W.heap.size W w') := fun x W hx hu hb => by
    obtain ⟨h1, h2⟩ := ups_rk hr hx (hok x hx) hu
    exact ih x.1.toNat W h1 (by omega) (hl.all hb)
  have HL : Hid (Wrs w v l) := hl
  have HOK : Hid (∀ x ∈ l, w4chk x = 0) := hok
  obtain ⟨va, vc, rfl⟩ := hl.form
  have hri : (r : Int) < 5 := by omega
  clear ih hl hok hn
  go_enter Tryd.func7, Tryd.ntmps7
  go_wp2_with (first
    | (go_at_call 13; refine q1.mono ?_; rintro e w1 ⟨rfl, b1⟩; clear q1)
    | (refine wpList_store_mid rfl 39 _ _ rfl w1.heap.size 0 (wayCells l).toArray rfl rfl (there_new w1 39) (by kernel_rfl) (way_one l) ?_; rw [show (wayCells l).toArray.toList = wayCells l from rfl]; have cz := fun (i k : Nat) (hi : i < 5) (hk : k < 5) => ways_cell w1 l 39 hi hk; have Bz := below_cells (b1.alloc b1.size (.cells z25 39)) b1.size (wayCells l) 0; have sz : w1.heap.size + 1 ≤ ((w1.alloc (.cells z25 39)).setCells w1.heap.size 0 (wayCells l)).heap.size := (by have := (below_cells (Below.refl w1.heap.size (w1.alloc (.cells z25 39))) (Nat.le_refl _) (wayCells l) 0).size; rw [World.size_alloc] at this; exact this); unfold z25 at cz Bz sz; generalize World.setCells _ w1.heap.size 0 (wayCells l) = wz at cz Bz sz ⊢; have HZ : Hid (∀ W, Below wz.heap.size wz W → ∀ i k : Nat, i < 5 → k < 5 → W.cell? ⟨w1.heap.size, i * 5 + k, none⟩ = some (.bool (way l i k))) := fun W hb i k hi hk => (hb.cell (p := ⟨w1.heap.size, i * 5 + k, none⟩) (show w1.heap.size < wz.heap.size by omega)).trans (cz i k hi hk); clear cz))
  have HB : Hid (Below w.heap.size w wz) := Bz
  generalize w1.heap.size = wb at HZ
  clear Bz sz b1
  go_loopw [6, 7] (fun s6 s7 wr => ∃ k B : Nat, k ≤ l.length ∧ s7 = .int .i64 k ∧ s6 = .int .i64 B ∧ Hid (B = big (ups l r) (fun x => lev l x.1.toNat + 1) 0 (l.take k)) ∧ Below wz.heap.size wz wr) (fun _ s7 _ => l.length - (intOf s7).toNat)
  case atStart => exact ⟨0, 0, Nat.zero_le _, rfl, rfl, rfl, Below.refl _ _⟩
  case round =>
    obtain ⟨k, B, hk, rfl, rfl, HBg, hbw⟩ := hrel
    have bW := HB.out.trans (hbw.mono HB.out.size)
    by_cases hkl : k < l.length
    · have hki : (k : Int) < (l.length : Int) := by omega
      obtain ⟨lb, lo, f0, t0, kk, dd, rfl, hlt, hx, c0, c1, _, _⟩ := HL.out.at hkl
      have hmem := List.mem_of_getElem? hx
      have hrr := w4_rooms (HOK.out _ hmem)
      simp only at hrr
      obtain ⟨fi, rfl⟩ : ∃ n : Nat, f0 = n := ⟨f0.toNat, by omega⟩
      obtain ⟨ti, rfl⟩ : ∃ n : Nat, t0 = n := ⟨t0.toNat, by omega⟩
      obtain ⟨_, hf5', _, ht5', _⟩ := hrr
      have hf5 : fi < 5 := by omega
      have ht5 : ti < 5 := by omega
      replace c0 := (bW.cell (p := ⟨lb, _, none⟩) hlt).trans c0
      replace c1 := (bW.cell (p := ⟨lb, _, none⟩) hlt).trans c1
      have z0 := HZ.out _ hbw ti r ht5 hr
      have z1 := HZ.out _ hbw r ti hr ht5
      have z2 := HZ.out _ hbw ti fi ht5 hf5
      have HU : Hid (ups l r ((fi : Int), (ti : Int), kk, dd) = (way l ti r && way l r ti && !way l ti fi)) := by
        show ups l r ((fi : Int), (ti : Int), kk, dd) = _
        simp [ups]
      have HS : Hid (big (ups l r) (fun x => lev l x.1.toNat + 1) 0 (l.take (k + 1)) = if ups l r ((fi : Int), (ti : Int), kk, dd) = true then max B (lev l fi + 1) else B) := by
        show _ = _
        rw [take_snoc4 hx, big_snoc, ← HBg.out]
        simp
      have HC : Hid (ups l r ((fi : Int), (ti : Int), kk, dd) = true → ∀ W, Below wz.heap.size wz W → Calls Tryd.prog 7 #[.slice (some ⟨lb, lo, none⟩) l.length vc, .int .i64 fi] W fun e w' => e = .returned (.int .i64 (lev l fi : Int)) ∧ Below W.heap.size W w') := fun hu W hb => by
        have := HI.out _ W hmem hu (HB.out.trans (hb.mono HB.out.size))
        simpa using this
      have hB5 : lev l fi ≤ 5 := lev_le l fi
      clear hx hmem HBg
      go_upto_region 6 with fail
      cases w1' : way l ti r with
      | false =>
        cases w2' : way l r ti with
        | false =>
          cases w3' : way l ti fi with
          | false =>
            have HF : Hid (ups l r ((fi : Int), (ti : Int), kk, dd) = false) := by
              show _ = false
              rw [HU.out, w1', w2', w3']
              rfl
            rw [w1'] at z0
            rw [w2'] at z1
            rw [w3'] at z2
            clear w1' w2' w3' HU HC
            go_quiet (fail)
            go_wp2
            go_roundw
            case rel => exact ⟨k + 1, B, by omega, by go_num, rfl, (by show B = _; rw [HS.out, HF.out]; rfl), below_dN hbw _⟩
            case measure => simp [intOf]; omega
          | true =>
            have HF : Hid (ups l r ((fi : Int), (ti : Int), kk, dd) = false) := by
              show _ = false
              rw [HU.out, w1', w2', w3']
              rfl
            rw [w1'] at z0
            rw [w2'] at z1
            rw [w3'] at z2
            clear w1' w2' w3' HU HC
            go_quiet (fail)
            go_wp2
            go_roundw
            case rel => exact ⟨k + 1, B, by omega, by go_num, rfl, (by show B = _; rw [HS.out, HF.out]; rfl), below_dN hbw _⟩
            case measure => simp [intOf]; omega
        | true =>
          cases w3' : way l ti fi with
          | false =>
            have HF : Hid (ups l r ((fi : Int), (ti : Int), kk, dd) = false) := by
              show _ = false
              rw [HU.out, w1', w2', w3']
              rfl
            rw [w1'] at z0
            rw [w2'] at z1
            rw [w3'] at z2
            clear w1' w2' w3' HU HC
            go_quiet (fail)
            go_wp2
            go_roundw
            case rel => exact ⟨k + 1, B, by omega, by go_num, rfl, (by show B = _; rw [HS.out, HF.out]; rfl), below_dN hbw _⟩
            case measure => simp [intOf]; omega
          | true =>
            have HF : Hid (ups l r ((fi : Int), (ti : Int), kk, dd) = false) := by
              show _ = false
              rw [HU.out, w1', w2', w3']
              rfl
            rw [w1'] at z0
            rw [w2'] at z1
            rw [w3'] at z2
            clear w1' w2' w3' HU HC
            go_quiet (fail)
            go_wp2
            go_roundw
            case rel => exact ⟨k + 1, B, by omega, by go_num, rfl, (by show B = _; rw [HS.out, HF.out]; rfl), below_dN hbw _⟩
            case measure => simp [intOf]; omega
      | true =>
        cases w2' : way l r ti with
        | false =>
          cases w3' : way l ti fi with
          | false =>
            have HF : Hid (ups l r ((fi : Int), (ti : Int), kk, dd) = false) := by
              show _ = false
              rw [HU.out, w1', w2', w3']
              rfl
            rw [w1'] at z0
            rw [w2'] at z1
            rw [w3'] at z2
            clear w1' w2' w3' HU HC
            go_quiet (fail)
            go_wp2
            go_roundw
            case rel => exact ⟨k + 1, B, by omega, by go_num, rfl, (by show B = _; rw [HS.out, HF.out]; rfl), below_dN hbw _⟩
            case measure => simp [intOf]; omega
          | true =>
            have HF : Hid (ups l r ((fi : Int), (ti : Int), kk, dd) = false) := by
              show _ = false
              rw [HU.out, w1', w2', w3']
              rfl
            rw [w1'] at z0
            rw [w2'] at z1
            rw [w3'] at z2
            clear w1' w2' w3' HU HC
            go_quiet (fail)
            go_wp2
            go_roundw
            case rel => exact ⟨k + 1, B, by omega, by go_num, rfl, (by show B = _; rw [HS.out, HF.out]; rfl), below_dN hbw _⟩
            case measure => simp [intOf]; omega
        | true =>
          cases w3' : way l ti fi with
          | true =>
            have HF : Hid (ups l r ((fi : Int), (ti : Int), kk, dd) = false) := by
              show _ = false
              rw [HU.out, w1', w2', w3']
              rfl
            rw [w1'] at z0
            rw [w2'] at z1
            rw [w3'] at z2
            clear w1' w2' w3' HU HC
            go_quiet (fail)
            go_wp2
            go_roundw
            case rel => exact ⟨k + 1, B, by omega, by go_num, rfl, (by show B = _; rw [HS.out, HF.out]; rfl), below_dN hbw _⟩
            case measure => simp [intOf]; omega
          | false =>
            have HF : Hid (ups l r ((fi : Int), (ti : Int), kk, dd) = true) := by
              show _ = true
              rw [HU.out, w1', w2', w3']
              rfl
            rw [w1'] at z0
            rw [w2'] at z1
            rw [w3'] at z2
            clear w1' w2' w3' HU
            obtain ⟨lv, hlv⟩ : ∃ m, lev l fi = m := ⟨_, rfl⟩
            rw [hlv] at HC HS hB5
            clear hlv
            by_cases hgt : B < lv + 1
            · have HG : Hid (B < lv + 1) := hgt
              have d1 : decide ((B : Int) < (lv : Int) + 1) = true := decide_eq_true (by omega)
              have d2 : decide (B < lv + 1) = true := decide_eq_true hgt
              have d1' : (B : Int) < (lv : Int) + 1 := by omega
              clear hgt
              go_quiet (fail)
              have bN := below_dN hbw nq
              have q2 := HC.out HF.out _ bN
              go_wp2_with (go_at_call 7; refine q2.mono ?_; rintro e w5 ⟨rfl, b5⟩; clear q2)
              go_roundw
              case rel => exact ⟨k + 1, lv + 1, by omega, by go_num, by go_num, (by show lv + 1 = _; rw [HS.out, HF.out, if_pos rfl]; have := HG.out; omega), bN.trans (b5.mono bN.size)⟩
              case measure => simp [intOf]; omega
            · have HG : Hid (¬ B < lv + 1) := hgt
              have d1 : decide ((B : Int) < (lv : Int) + 1) = false := decide_eq_false (by omega)
              have d2 : decide (B < lv + 1) = false := decide_eq_false hgt
              clear hgt
              go_quiet (fail)
              have bN := below_dN hbw nq
              have q2 := HC.out HF.out _ bN
              go_wp2_with (go_at_call 7; refine q2.mono ?_; rintro e w5 ⟨rfl, b5⟩; clear q2)
              go_roundw
              case rel => exact ⟨k + 1, B, by omega, by go_num, rfl, (by show B = _; rw [HS.out, HF.out, if_pos rfl]; have := HG.out; omega), bN.trans (b5.mono bN.size)⟩
              case measure => simp [intOf]; omega
    · have hke : k = l.length := by omega
      subst hke
      have hkf : decide ((l.length : Int) < (l.length : Int)) = false := decide_eq_false (by omega)
      have hB : B = lev l r := by
        rw [HBg.out, List.take_length, lev_eq HOK.out hr]
      subst hB
      go_wp2
      go_ret
      exact ⟨rfl, bW⟩
theorem rlevel_any (l : List W4) (v : Value) (hlen : l.length ≤ 12) (hok : ∀ x ∈ l, w4chk x = 0) (r : Nat) (w : World) (hr : r < 5) (hl : Wrs w v l) : Calls Tryd.prog 7 #[v, .int .i64 r] w fun e w' => e = .returned (.int .i64 (lev l r : Int)) ∧ Below w.heap.size w w' := by
  have go : ∀ n, ∀ (r : Nat) (w : World), r < 5 → rk l r < n → Wrs w v l → Calls Tryd.prog 7 #[v, .int .i64 r] w fun e w' => e = .returned (.int .i64 (lev l r : Int)) ∧ Below w.heap.size w w' := by
    intro n
    induction n with
    | zero => exact fun r w _ h _ => absurd h (Nat.not_lt_zero _)
    | succ n ih =>
      intro r w hr hn hl
      refine rlevel_go l v hlen hok (rk l r) (fun r' w' h1 h2 h3 => ih r' w' h1 (by omega) h3) r w hr rfl hl
  exact go (rk l r + 1) r w hr (Nat.lt_succ_self _) hl
end Go.Proofs.YtbnliibgnnegeagDoor
