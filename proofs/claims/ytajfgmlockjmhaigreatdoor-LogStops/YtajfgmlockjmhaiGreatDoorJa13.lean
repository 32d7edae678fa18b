/-
  LogCP, OnesM, KCountM, KerGC, LogGB, LogPk, LogGP: joined into one text.
-/
import Derived.Test.YtajfgmlockjmhaiGreatDoorJa2
import Derived.Test.YtajfgmlockjmhaiGreatDoorJa1
import Derived.Test.YtajfgmlockjmhaiGreatDoorJa12
import Derived.Test.YtajfgmlockjmhaiGreatDoorJa11
import Derived.Test.YtajfgmlockjmhaiGreatDoorJa3
import Derived.Test.YtajfgmlockjmhaiGreatDoorJa9
import Derived.Test.YtajfgmlockjmhaiGreatDoorJa4
import Derived.Test.YtajfgmlockjmhaiGreatDoorLogGo
namespace Go.Proofs.YtajfgmlockjmhaiGreatDoor
open Go.RowKit

def LogPoke {G : World → Prop} (C : LogC G) : Prop := ∀ {w0 W p d cb F} (r c n : Int), G w0 → C.K w0 W p d cb F → plchk p = 0 → LOk p d → Calls Tryz.prog 21 #[.pointer (some ⟨cb, 0, none⟩), .int .i64 r, .int .i64 c, .int .i64 n] W fun e w' => e = .returned (wErr (lpEnd p d r c n)) ∧ ∃ sz F', 2 ≤ sz ∧ sz ≤ 100000 ∧ C.K w0 w' p (lpL p d r c n sz) cb F' ∧ KTouch F W w' ∧ ∀ g ∈ F', g ∈ F ∨ W.heap.size ≤ g
end Go.Proofs.YtajfgmlockjmhaiGreatDoor
namespace Go.Proofs.YtajfgmlockjmhaiGreatDoor

/-- The spans: one tick each, one behind the other. -/
def ones (k : Nat) : List S3 := (List.range k).map fun (i : Nat) => ((i : Int), (i : Int) + 1, (i : Int))
theorem ones_succ (k : Nat) : ones (k + 1) = ones k ++ [((k : Int), (k : Int) + 1, (k : Int))] := by simp [ones, List.range_succ]
theorem ones_len (k : Nat) : (ones k).length = k := by simp [ones]
end Go.Proofs.YtajfgmlockjmhaiGreatDoor
namespace Go.Proofs.YtajfgmlockjmhaiGreatDoor

/-- The code of a room that counts. -/
def cntC : List O3 := [(1, 1, 1), (3, 0, 1)]
/-- So many rooms that count. -/
def cntP (n : Nat) : PD := ⟨List.replicate n cntC, n, ones n, []⟩
theorem cntP_ok : ∀ n : Nat, n < 6 → 1 ≤ n → plchk (cntP n) = 0 := by decide +kernel
theorem cnt_hold : ∀ n : Nat, n < 6 → ∀ q : Nat, q < n → hold (ones n) (q : Int) = (q : Int) := by decide +kernel
/-- A room behind so many steps. -/
def cntS (j : Nat) : St := ⟨((j % 2 : Nat) : Int), fun i => if i = 0 then (((j / 2) % 1000 : Nat) : Int) else if i = 1 then (if j = 0 then 0 else 1) else 0, false⟩
theorem cntS_new : cntS 0 = stNew := by
  unfold cntS stNew
  congr 1
  funext i
  by_cases h0 : i = 0
  · simp [h0]
  · by_cases h1 : i = 1
    · simp [h1]
    · simp [h0, h1]
theorem cntS_even (j : Nat) (h : j % 2 = 0) : stepF (1, 1, 1) (cntS j) 2 0 false = cntS (j + 1) := by
  have h1 : (j + 1) % 2 = 1 := by omega
  have h2 : (j + 1) / 2 = j / 2 := by omega
  have hp : nextF (1, 1, 1) (cntS j) 2 false = (cntS (j + 1)).p := by unfold nextF; simp [cntS, h, h1]
  have hc : cellsF (1, 1, 1) (cntS j).c 0 false = (cntS (j + 1)).c := by
    funext i
    show upd (cntS j).c 1 1 i = _
    unfold upd cntS
    by_cases h0 : i = 0
    · subst h0; simp [h2]
    · by_cases h3 : i = 1
      · subst h3; simp
      · simp [h0, h3]
  unfold stepF
  rw [if_neg (by simp [cntS]), hp, hc]
  rfl
theorem cntS_odd (j : Nat) (h : j % 2 = 1) : stepF (3, 0, 1) (cntS j) 2 0 false = cntS (j + 1) := by
  have h1 : (j + 1) % 2 = 0 := by omega
  have h2 : (j + 1) / 2 = j / 2 + 1 := by omega
  have h3 : j ≠ 0 := by omega
  have hp : nextF (3, 0, 1) (cntS j) 2 false = (cntS (j + 1)).p := by unfold nextF; simp [cntS, h, h1]
  have hc : cellsF (3, 0, 1) (cntS j).c 0 false = (cntS (j + 1)).c := by
    funext i
    show upd (cntS j).c 0 (((cntS j).c 0 + (cntS j).c 1) % 1000) i = _
    unfold upd cntS
    by_cases h0 : i = 0
    · subst h0
      simp [h2, h3]
    · by_cases h4 : i = 1
      · subst h4; simp [h3]
      · simp [h0, h4]
  unfold stepF
  rw [if_neg (by simp [cntS]), hp, hc]
  rfl
/-- How many turns a room had. -/
def cntT (n r t : Nat) : Nat := (t + n - 1 - r) / n
theorem cntT_next {n r t : Nat} (hn : 0 < n) (hr : r < n) : cntT n r (t + 1) = if r = t % n then cntT n r t + 1 else cntT n r t := by
  unfold cntT
  have hd := Nat.div_add_mod t n
  have hm := Nat.mod_lt t hn
  generalize t / n = q at hd
  generalize t % n = m at hd hm
  subst hd
  split
  · rename_i h
    subst h
    rw [show n * q + r + 1 + n - 1 - r = n * (q + 1) by rw [Nat.mul_add]; omega, show n * q + r + n - 1 - r = n * q + (n - 1) by omega, Nat.mul_div_cancel_left _ hn, Nat.mul_add_div hn, Nat.div_eq_of_lt (by omega)]
  · rename_i h
    by_cases hlt : r < m
    · rw [show n * q + m + 1 + n - 1 - r = n * (q + 1) + (m - r) by rw [Nat.mul_add]; omega, show n * q + m + n - 1 - r = n * (q + 1) + (m - r - 1) by rw [Nat.mul_add]; omega, Nat.mul_add_div hn, Nat.mul_add_div hn, Nat.div_eq_of_lt (by omega), Nat.div_eq_of_lt (by omega)]
    · rw [show n * q + m + 1 + n - 1 - r = n * q + (m + n - r) by omega, show n * q + m + n - 1 - r = n * q + (m + n - r - 1) by omega, Nat.mul_add_div hn, Nat.mul_add_div hn, Nat.div_eq_of_lt (by omega), Nat.div_eq_of_lt (by omega)]
/-- All of it behind so many ticks. -/
def cntK (n t : Nat) : KD := ⟨(List.range n).map fun r => cntS (cntT n r t), [], t⟩
theorem cntK_new (n : Nat) : newK (cntP n) = cntK n 0 := by
  unfold newK cntK cntP
  simp only [List.map_replicate, List.map_nil, KD.mk.injEq, true_and]
  refine ⟨?_, rfl⟩
  apply List.ext_getElem?
  intro i
  by_cases hi : i < n
  · have : cntT n i 0 = 0 := by unfold cntT; exact Nat.div_eq_of_lt (by omega)
    simp [hi, this, cntS_new]
  · simp [hi]
theorem cntK_room {n t r : Nat} (hr : r < n) : (cntK n t).rooms[r]? = some (cntS (cntT n r t)) := by simp [cntK, hr]
theorem cntK_tick {n t : Nat} (hn : 0 < n) (h5 : n < 6) : (tickK (cntP n) (cntP n).spans (cntK n t)).1 = cntK n (t + 1) := by
  have hm := Nat.mod_lt t hn
  have hh : hold (cntP n).spans ((cntK n t).time % (cntP n).ticks) = ((t % n : Nat) : Int) := by
    show hold (ones n) ((t : Int) % (n : Int)) = _
    rw [show (t : Int) % (n : Int) = ((t % n : Nat) : Int) from rfl]
    exact cnt_hold n h5 _ hm
  unfold tickK
  simp only [hh]
  rw [if_neg (by omega), Int.toNat_natCast]
  generalize hq : t % n = q at hm
  unfold turnK
  have hc : (cntP n).code.getD q [] = cntC := by simp [cntP, List.getD, hm]
  have hs : (cntK n t).rooms.getD q stNew = cntS (cntT n q t) := by simp [List.getD, cntK_room hm]
  simp only [hc, hs]
  have hst : ∀ j, stepF (opAt cntC (cntS j)) (cntS j) cntC.length (gotK (cntK n t) (opAt cntC (cntS j)) (cntS j)).1 (gotK (cntK n t) (opAt cntC (cntS j)) (cntS j)).2 = cntS (j + 1) ∧ linesS (linesT (cntK n t) (opAt cntC (cntS j)) (cntS j)) (opAt cntC (cntS j)) (sendF (opAt cntC (cntS j)) (cntS j)) = [] := fun j => by
    rcases Nat.mod_two_eq_zero_or_one j with h | h
    · have ho : opAt cntC (cntS j) = (1, 1, 1) := by unfold opAt; simp [cntS, h, cntC]
      rw [ho]
      exact ⟨cntS_even j h, rfl⟩
    · have ho : opAt cntC (cntS j) = (3, 0, 1) := by unfold opAt; simp [cntS, h, cntC]
      rw [ho]
      exact ⟨cntS_odd j h, rfl⟩
  rw [(hst _).1, (hst _).2]
  unfold cntK
  simp only [KD.mk.injEq, true_and]
  refine ⟨?_, by simp⟩
  apply List.ext_getElem?
  intro i
  by_cases hi : i < n
  · rw [List.getElem?_set]
    simp only [List.length_map, List.length_range, List.getElem?_map, List.getElem?_range hi, Option.map_some]
    rw [cntT_next hn hi, hq]
    by_cases hqi : q = i
    · subst hqi
      simp [hm]
    · simp [hqi, Ne.symm hqi]
  · simp [hi]
theorem cntK_ok {n : Nat} (hn : 0 < n) (h5 : n < 6) : ∀ t, KOk (cntP n) (cntK n t)
  | 0 => by rw [← cntK_new n]; exact new_ok (cntP_ok n h5 hn)
  | t + 1 => by rw [← cntK_tick hn h5]; exact tick_ok (cntP_ok n h5 hn) (cntK_ok hn h5 t)
/-- Behind whole frames of their steps all have counted alike. -/
theorem cntT_whole {n r m : Nat} (hn : 0 < n) (hr : r < n) : cntT n r (2 * n * m) = 2 * m := by
  unfold cntT
  rw [show 2 * n * m + n - 1 - r = n * (2 * m) + (n - 1 - r) by rw [show 2 * n * m = n * (2 * m) by rw [Nat.mul_comm 2 n, Nat.mul_assoc]]; omega, Nat.mul_add_div hn, Nat.div_eq_of_lt (by omega)]
  omega
theorem cntS_whole {m : Nat} (hm : m ≤ 40) : (cntS (2 * m)).p = 0 ∧ (cntS (2 * m)).c 0 = (m : Int) := by
  unfold cntS
  refine ⟨?_, ?_⟩
  · show ((2 * m % 2 : Nat) : Int) = 0
    omega
  · show (((2 * m / 2) % 1000 : Nat) : Int) = m
    omega
end Go.Proofs.YtajfgmlockjmhaiGreatDoor
namespace Go.Proofs.YtajfgmlockjmhaiGreatDoor
open Go.RowKit

theorem gker_chk {G : World → Prop} (hG : ∀ w, G w → Forms w) (hall : ∀ w w', G w → Below w.heap.size w w' → G w') : KerChk (gker hG hall) := fun {_ W p _ _ _ k kb _} r c n ⟨a, h, _, _⟩ => by
  refine (gcheck_any p k kb _ a r c n W h).mono ?_
  rintro e w' ⟨rfl, rfl⟩
  exact ⟨rfl, Below.refl _ _⟩
end Go.Proofs.YtajfgmlockjmhaiGreatDoor
namespace Go.Proofs.YtajfgmlockjmhaiGreatDoor
open Go.RowKit

theorem glogD_bytes {G : World → Prop} {D : KerC G} {DP : KerPoke D} {DT : KerTime D} {hT : ∀ w, G w → Pow10 w} : LogRd (glogD D DP DT hT) 25 (fun d _ => .int .i64 (d.bytes : Nat)) := fun ⟨_, h, _⟩ _ _ => lgbytes_any _ h
end Go.Proofs.YtajfgmlockjmhaiGreatDoor
namespace Go.Proofs.YtajfgmlockjmhaiGreatDoor
open Go.RowKit
section
variable {G : World → Prop} {D : KerC G} {w0 : World} {p : PD} {d : LgD} {lb : Nat} {x : LW}

set_option maxRecDepth 100000 in
set_option maxHeartbeats 4000000 in
theorem lgpoke_any (r c n : Int) (W : World) (DP : KerPoke D) (DC : KerChk D) (hT : ∀ w, G w → Pow10 w) (hG : G w0) (hp : plchk p = 0) (h : GL D w0 W p d (d.k p) lb x) (hok : LOk p d) :
    Calls Tryz.prog 21 #[.pointer (some ⟨lb, 0, none⟩), .int .i64 r, .int .i64 c, .int .i64 n] W fun e w' => e = .returned (wErr (lpEnd p d r c n)) ∧ ∃ x' sz, 2 ≤ sz ∧ sz ≤ 100000 ∧ GL D w0 w' p (lpL p d r c n sz) ((lpL p d r c n sz).k p) lb x' ∧ KTouch (x.F lb) W w' ∧ ∀ g ∈ x'.F lb, g ∈ x.F lb ∨ W.heap.size ≤ g := by
  obtain ⟨_, _, _, _, c4, _, _, _, c8⟩ := h.blk.cs
  have HGL : Hid (GL D w0 W p d (d.k p) lb x) := h
  have HCK : Hid (Calls Tryz.prog 51 #[.pointer (some ⟨x.kb, 0, none⟩), .int .i64 r, .int .i64 c, .int .i64 n] W fun e w' => e = .returned (wErr (pokeN (d.k p) r c n)) ∧ Below W.heap.size W w') := DC r c n h.k
  by_cases he : lpE p d r c n = 0
  · obtain ⟨hst, h0⟩ := lpE_zero he
    have hE : lpEnd p d r c n = if d.last = true then 6 else 0 := by
      unfold lpEnd
      rw [if_pos he]
    have hL : ∀ sz, lpL p d r c n sz = putR d (.poke r c n) sz := fun sz => by
      unfold lpL
      rw [if_pos he]
    have hb := pokeB_false (k := d.k p) (r := r) (c := c) (n := n) (by
      unfold pokeN at h0
      cases hb : pokeB (d.k p) r c n with
      | false => rfl
      | true => rw [hb, if_pos rfl] at h0; cases h0)
    have hr5 : (d.k p).rooms.length ≤ 999 := by
      have h1 := (redo_ok hp (d.recs.map (·.1))).rl
      have h2 := (plchk_zero hp).1
      show (redoK p (d.recs.map (·.1))).rooms.length ≤ 999
      omega
    have hs : LsOk (.poke r c n) := fun z hz => by
      simp only [lsN, List.mem_cons, List.not_mem_nil, or_false] at hz
      rcases hz with rfl | rfl | rfl <;> omega
    have hrl := recB_len hs
    have HD : Hid (∀ W1, Below W.heap.size W W1 → Calls Tryz.prog 49 #[.pointer (some ⟨lb, 0, none⟩), .string ⟨#[112, 111, 107, 101]⟩, .slice (some ⟨W1.heap.size, 0, none⟩) 3 3] (W1.alloc (.cells #[.int .i64 r, .int .i64 c, .int .i64 n] 3)) fun e w' => e = .returned (wErr (lpEnd p d r c n)) ∧ ∃ x' sz, 2 ≤ sz ∧ sz ≤ 100000 ∧ GL D w0 w' p (lpL p d r c n sz) ((lpL p d r c n sz).k p) lb x' ∧ KTouch (x.F lb) W w' ∧ ∀ g ∈ x'.F lb, g ∈ x.F lb ∨ W.heap.size ≤ g) := fun W1 hb => by
      have hb2 : Below W.heap.size W (W1.alloc (.cells #[.int .i64 r, .int .i64 c, .int .i64 n] 3)) := hb.alloc hb.size _
      refine (lgdo_any (.poke r c n) _ _ DP hT hG hp (h.all hb2) hok hst hs (nums_three W1 _ _ _ _ (fun g hg => Nat.lt_of_lt_of_le (h.flt g hg).2 hb.size))).mono ?_
      rintro e w' ⟨rfl, x', a1, a2, a3⟩
      refine ⟨by rw [hE], x', _, hrl.1, by omega, by rw [hL]; exact a1, (KTouch.of hb2).trans a2, fun g hg => ?_⟩
      rcases a3 g hg with e | e
      · exact Or.inl e
      · exact Or.inr (Nat.le_trans hb2.size e)
    have q1 := HCK.out
    rw [h0, show wErr 0 = .nilIface from rfl] at q1
    rw [hst] at c8
    clear h hok he HCK hE hL hb hr5 hs hrl HGL
    generalize wErr (lpEnd p d r c n) = ev at *
    go_enter Tryz.func21, Tryz.ntmps21
    go_wp2_with (first
      | (go_at_call 51; refine q1.mono ?_; rintro e w1 ⟨rfl, b1⟩; clear q1)
      | (go_at_call 49; refine (HD.out w1 b1).mono ?_; rintro e w2 ⟨rfl, HX⟩))
    go_ret
    exact ⟨rfl, HX⟩
  · have hE : lpEnd p d r c n = lpE p d r c n := by
      unfold lpEnd
      rw [if_neg he]
    have hL : lpL p d r c n 2 = d := by
      unfold lpL
      rw [if_neg he]
    have HX : Hid (∀ W1, Below W.heap.size W W1 → ∃ x' sz, 2 ≤ sz ∧ sz ≤ 100000 ∧ GL D w0 W1 p (lpL p d r c n sz) ((lpL p d r c n sz).k p) lb x' ∧ KTouch (x.F lb) W W1 ∧ ∀ g ∈ x'.F lb, g ∈ x.F lb ∨ W.heap.size ≤ g) := fun W1 hb => ⟨x, 2, Nat.le_refl _, by decide, by rw [hL]; exact HGL.out.all hb, KTouch.of hb, fun g hg => Or.inl hg⟩
    rw [hE]
    cases hst : d.stop with
    | true =>
      have hg : lpE p d r c n = 6 := by
        unfold lpE
        rw [if_pos hst]
      rw [hg]
      rw [hst] at c8
      clear h hok he hE hL hg HCK
      go_enter Tryz.func21, Tryz.ntmps21
      go_wp2
      go_ret
      exact ⟨rfl, HX.out _ (Below.refl _ _)⟩
    | false =>
      have hg : lpE p d r c n = pokeN (d.k p) r c n := by
        unfold lpE
        rw [if_neg (by rw [hst]; decide)]
      have hp1 : pokeN (d.k p) r c n = 1 := by
        rw [hg] at he
        unfold pokeN at he ⊢
        split
        · rfl
        · rename_i hh
          rw [if_neg hh] at he
          exact absurd rfl he
      rw [hg, hp1]
      have q1 := HCK.out
      rw [hp1, show wErr 1 = .iface 93 (.int .i64 1) from rfl] at q1
      rw [hst] at c8
      clear h hok he hE hL hg HCK hp1
      go_enter Tryz.func21, Tryz.ntmps21
      go_wp2_with (go_at_call 51; refine q1.mono ?_; rintro e w1 ⟨rfl, b1⟩; clear q1)
      go_ret
      exact ⟨rfl, HX.out _ b1⟩
end
end Go.Proofs.YtajfgmlockjmhaiGreatDoor
namespace Go.Proofs.YtajfgmlockjmhaiGreatDoor
open Go.RowKit

theorem glogD_poke {G : World → Prop} {D : KerC G} {DP : KerPoke D} {DT : KerTime D} {hT : ∀ w, G w → Pow10 w} (DC : KerChk D) : LogPoke (glogD D DP DT hT) := fun r c n hg ⟨x, h, hF⟩ hp hok => by
  subst hF
  refine (lgpoke_any r c n _ DP DC hT hg hp h hok).mono ?_
  rintro e w' ⟨rfl, x', sz, h1, h2, h3, h4, h5⟩
  exact ⟨rfl, sz, _, h1, h2, ⟨x', h3, rfl⟩, h4, h5⟩
end Go.Proofs.YtajfgmlockjmhaiGreatDoor
