/-
  TopOne, NamesMath, BackMath, PlanBackM, NumMath: joined into one text.
-/
import Derived.Test.YtajfgmlockjmhaiGreatDoorJt4
import Derived.Test.YtajfgmlockjmhaiGreatDoorJt3
import Derived.Deep.CutRange
import Derived.Deep.RegionWith
import Derived.BigQuiet
import Derived.RangeFuncNested
import Derived.Test.YtajfgmlockjmhaiGreatDoorJt2
import Derived.Test.YtajfgmlockjmhaiGreatDoorJt1
namespace Go.Proofs.YtajfgmlockjmhaiGreatDoor
open Go.RowKit

/-- Its plan. -/
def setP : PD := ⟨[[(1, 2, 7)]], 1, [(0, 1, 0)], []⟩
theorem setP_ok : plchk setP = 0 := by decide +kernel
theorem setP_c : (roomK (tickK setP setP.spans (newK setP)).1 0).c 2 = 7 := by decide +kernel
theorem setP_r : noRoom (tickK setP setP.spans (newK setP)).1 0 = false := by decide +kernel
/-- It lies in the world. -/
theorem setP_pln (W : World) (n : Nat) (hn : n = W.heap.size) : Pln (((W.alloc (.cells #[.int .i64 1, .int .i64 2, .int .i64 7] 28)).alloc (.cells #[.slice (some ⟨n, 0, none⟩) 1 1] 29)).alloc (.cells #[.int .i64 0, .int .i64 1, .int .i64 0] 82)) (.slice (some ⟨n + 1, 0, none⟩) 1 1) (.slice (some ⟨n + 2, 0, none⟩) 1 1) (.slice none 0 0) setP := by
  subst hn
  refine ⟨Or.inr ⟨_, 0, 1, rfl, Nat.le_refl _, by simp, fun i c hi => ?_⟩, Or.inr ⟨_, 0, 1, rfl, Nat.le_refl _, by simp, fun i s hi => ?_⟩, Or.inl ⟨rfl, _, _, rfl⟩⟩
  · match i, hi with
    | 0, hi =>
      simp [setP] at hi
      subst hi
      refine ⟨.slice (some ⟨W.heap.size, 0, none⟩) 1 1, by simp [go_sem], Or.inr ⟨W.heap.size, 0, 1, rfl, by simp; omega, fun j o ho => ?_⟩⟩
      match j, ho with
      | 0, ho => simp at ho; subst ho; simp [go_sem]
      | j + 1, ho => simp at ho
    | i + 1, hi => simp [setP] at hi
  · match i, hi with
    | 0, hi => simp [setP] at hi; subst hi; simp [go_sem]
    | i + 1, hi => simp [setP] at hi
set_option maxRecDepth 100000 in
set_option maxHeartbeats 8000000 in
theorem topone_any {G : World → Prop} (C : KerC G) (w : World) (hG : G w) : Calls Tryz.prog 30 #[] w fun e w' => e = .returned (.bool true) ∧ Below w.heap.size w w' := by
  have hpl := setP_pln w w.heap.size rfl
  have hB0 : Below w.heap.size w (((w.alloc (.cells #[.int .i64 1, .int .i64 2, .int .i64 7] 28)).alloc (.cells #[.slice (some ⟨w.heap.size, 0, none⟩) 1 1] 29)).alloc (.cells #[.int .i64 0, .int .i64 1, .int .i64 0] 82)) := (((Below.refl _ _).alloc (Nat.le_refl _) _).alloc (by simp) _).alloc (by simp; omega) _
  have hN := C.new setP _ _ _ _ (C.all _ _ hG hB0) hpl setP_ok
  have HK : Hid (∀ W w1 kb F, G W → C.K W w1 setP (.slice (some ⟨w.heap.size + 1, 0, none⟩) 1 1) (.slice (some ⟨w.heap.size + 2, 0, none⟩) 1 1) (.slice none 0 0) (newK setP) kb F → Calls Tryz.prog 12 #[.pointer (some ⟨kb, 0, none⟩)] w1 fun e w2 => (∃ v, e = .returned v) ∧ Below W.heap.size W w2 ∧ Calls Tryz.prog 32 #[.pointer (some ⟨kb, 0, none⟩), .int .i64 0] w2 fun e w3 => ∃ s : St, e = .returned (.tuple #[.agg #[.int .i64 s.p, .int .i64 (s.c 0), .int .i64 (s.c 1), .int .i64 7, .int .i64 (s.c 3), .int .i64 (s.c 4), .int .i64 (s.c 5), .bool s.f], .nilIface]) ∧ Below w2.heap.size w2 w3) := fun W w1 kb F hW hK => by
    refine (C.tick hW hK setP_ok (new_ok setP_ok) (by decide)).mono ?_
    rintro e w2 ⟨rfl, F', hK2, tk, _⟩
    refine ⟨⟨_, rfl⟩, C.since hK2, (C.state 0 hK2 (tick_ok setP_ok (new_ok setP_ok)) setP_ok).mono ?_⟩
    rintro e w3 ⟨rfl, b3⟩
    refine ⟨roomK (tickK setP setP.spans (newK setP)).1 0, ?_, b3⟩
    rw [setP_r]
    unfold stA
    rw [setP_c]
    rfl
  have HG : Hid (G w) := hG
  clear hG hpl
  unfold plV at hN
  rw [show setP.ticks = 1 from rfl] at hN
  go_enter Tryz.func30, Tryz.ntmps30
  go_upto_region 4 with (go_at_call 9; refine hN.mono ?_; rintro e w1 ⟨kb, F, rfl, hK⟩)
  have q := HK.out _ w1 kb F (C.all _ _ HG.out hB0) hK
  have hbq := hB0
  generalize ((w.alloc (.cells #[.int .i64 1, .int .i64 2, .int .i64 7] 28)).alloc (.cells #[.slice (some ⟨w.heap.size, 0, none⟩) 1 1] 29)).alloc (.cells #[.int .i64 0, .int .i64 1, .int .i64 0] 82) = W0 at q hbq
  clear hN hK HK hB0
  go_upto_region 5 with (go_at_call 12; refine q.mono ?_; rintro e w2 ⟨⟨v, rfl⟩, b2, q3⟩; clear q)
  go_wp2_with (go_at_call 32; refine q3.mono ?_; rintro e w3 ⟨s, rfl, b3⟩; clear q3)
  go_ret
  have hb3 := hbq.trans ((b2.trans (b3.mono b2.size)).mono hbq.size)
  exact ⟨rfl, hb3.alloc hb3.size _⟩
end Go.Proofs.YtajfgmlockjmhaiGreatDoor
namespace Go.Proofs.YtajfgmlockjmhaiGreatDoor

theorem dec_mem (u : Nat) : ∀ x ∈ Lib.decDigits u, 48 ≤ x.toNat ∧ x.toNat ≤ 57 := by
  induction u using Nat.strongRecOn with
  | _ u ih =>
    intro x hx
    rw [Lib.decDigits] at hx
    split at hx
    · simp at hx; subst hx; simp; omega
    · rename_i h
      simp only [List.mem_append, List.mem_singleton] at hx
      rcases hx with hx | hx
      · exact ih (u / 10) (by omega) x hx
      · subst hx; simp; omega
theorem itoa_pos {z : Int} (h : 0 ≤ z) : Lib.itoa z = Lib.decDigits z.toNat := by unfold Lib.itoa; rw [if_neg (by omega)]
theorem itoa_mem {z : Int} (h : 0 ≤ z) : ∀ x ∈ Lib.itoa z, 48 ≤ x.toNat ∧ x.toNat ≤ 57 := by rw [itoa_pos h]; exact dec_mem _
theorem not_itoa {c : UInt8} {z : Int} (h : 0 ≤ z) (hc : c.toNat < 48) : c ∉ Lib.itoa z := fun hm => by have := itoa_mem h c hm; omega
theorem not_tail {c : UInt8} (hc : c.toNat < 48) (h32 : c ≠ 32) : ∀ (zs : List Int), (∀ z ∈ zs, 0 ≤ z) → c ∉ tail zs
  | [], _ => by simp [tail]
  | z :: zs, h => by
    have h1 := not_tail hc h32 zs (fun y hy => h y (by simp [hy]))
    have h2 := not_itoa (c := c) (h z (by simp)) hc
    unfold tail at h1 ⊢
    rw [List.flatMap_cons]
    simp only [List.mem_append, List.mem_cons, not_or]
    exact ⟨⟨h32, h2⟩, h1⟩
end Go.Proofs.YtajfgmlockjmhaiGreatDoor
namespace Go.Proofs.YtajfgmlockjmhaiGreatDoor

theorem digit_val {d : Nat} (h : d < 10) : Lib.digitVal (UInt8.ofNat (48 + d)) = some d := by
  have e : (UInt8.ofNat (48 + d)).toNat = 48 + d := by simp; omega
  unfold Lib.digitVal
  rw [e, if_pos (by omega)]
  congr 1
  omega
theorem decFrom_snoc (b : UInt8) (d : Nat) (hd : Lib.digitVal b = some d) : ∀ (l : List UInt8) (acc n : Nat), Lib.decFrom acc l = some n → Lib.decFrom acc (l ++ [b]) = some (n * 10 + d)
  | [], acc, n, h => by simp only [Lib.decFrom, Option.some.injEq] at h; subst h; simp [Lib.decFrom, hd]
  | x :: l, acc, n, h => by
    simp only [Lib.decFrom, List.cons_append] at h ⊢
    cases hx : Lib.digitVal x with
    | none => rw [hx] at h; cases h
    | some e => rw [hx] at h; simp only at h ⊢; exact decFrom_snoc b d hd l _ n h
theorem dec_from (u : Nat) : Lib.decFrom 0 (Lib.decDigits u) = some u := by
  induction u using Nat.strongRecOn with
  | _ u ih =>
    rw [Lib.decDigits]
    split
    · rename_i h
      rw [Lib.decFrom, digit_val h]
      simp [Lib.decFrom]
    · rename_i h
      rw [decFrom_snoc _ (u % 10) (digit_val (by omega)) _ 0 (u / 10) (ih (u / 10) (by omega))]
      congr 1
      omega
theorem dec_ne (u : Nat) : Lib.decDigits u ≠ [] := by
  rw [Lib.decDigits]
  split <;> simp
theorem atoi_dec (u : Nat) : Lib.atoi (Lib.decDigits u) = some (u : Int) := by
  cases h : Lib.decDigits u with
  | nil => exact absurd h (dec_ne u)
  | cons b r =>
    have hb := dec_mem u b (by rw [h]; simp)
    have h45 : (b == 45) = false := by simp; intro e; rw [e] at hb; simp at hb
    have h43 : (b == 43) = false := by simp; intro e; rw [e] at hb; simp at hb
    have hd := dec_from u
    rw [h] at hd
    simp [Lib.atoi, h45, h43, Lib.decNat, hd]
theorem cut_tail (zs : List Int) (h : ∀ z ∈ zs, 0 ≤ z) : ∀ (cur : List UInt8), cutGo 32 cur (tail zs) = cur :: zs.map Lib.itoa := by
  induction zs with
  | nil => intro cur; rfl
  | cons z zs ih =>
    intro cur
    have e : tail (z :: zs) = 32 :: (Lib.itoa z ++ tail zs) := by simp [tail]
    rw [e, cutGo_hit rfl, cutGo_app 32 _ [] _ (not_itoa (h z (by simp)) (by decide)), List.nil_append, ih (fun y hy => h y (by simp [hy]))]
    rfl
theorem cut_body {p : List UInt8} (hp : (32 : UInt8) ∉ p) (zs : List Int) (h : ∀ z ∈ zs, 0 ≤ z) : cutB 32 (p ++ tail zs) = p :: zs.map Lib.itoa := by
  unfold cutB
  rw [cutGo_app 32 p [] _ hp, List.nil_append, cut_tail zs h]
theorem cut_join (c : UInt8) : ∀ (l cur : List UInt8) (p : List UInt8) (ps : List (List UInt8)), cutGo c cur l = p :: ps → cur ++ l = p ++ ps.flatMap (c :: ·)
  | [], cur, p, ps, h => by simp only [cutGo, List.cons.injEq] at h; obtain ⟨rfl, rfl⟩ := h; simp
  | x :: xs, cur, p, ps, h => by
    by_cases hx : x = c
    · rw [cutGo_hit hx] at h
      simp only [List.cons.injEq] at h
      obtain ⟨rfl, hps⟩ := h
      cases ps with
      | nil => have := (cutGo_len c xs []).1; rw [hps] at this; simp at this
      | cons q qs =>
        have := cut_join c xs [] q qs hps
        rw [List.nil_append] at this
        simp [hx, this]
    · rw [cutGo_miss hx] at h
      have := cut_join c xs (cur ++ [x]) p ps h
      simpa using this
end Go.Proofs.YtajfgmlockjmhaiGreatDoor
namespace Go.Proofs.YtajfgmlockjmhaiGreatDoor

theorem cut_endL : ∀ (ls : List (List UInt8)), (∀ u ∈ ls, (10 : UInt8) ∉ u) → cutB 10 (endL ls) = ls ++ [[]]
  | [], _ => rfl
  | u :: ls, h => by
    have e : endL (u :: ls) = u ++ 10 :: endL ls := by simp [endL]
    rw [e]
    unfold cutB
    rw [cutGo_at 10 u [] _ (h u (by simp)), List.nil_append, cut_endL ls (fun v hv => h v (by simp [hv]))]
    rfl
theorem not_word {w : List UInt8} {zs : List Int} (hw : (10 : UInt8) ∉ w) (h : ∀ z ∈ zs, 0 ≤ z) : (10 : UInt8) ∉ w ++ tail zs := by
  rw [List.mem_append, not_or]
  exact ⟨hw, not_tail (by decide) (by decide) zs h⟩
/-- What a plan that is right has for numbers. -/
structure Small (p : PD) : Prop where
  ticks : 0 ≤ p.ticks ∧ p.ticks ≤ 999
  spans : ∀ s ∈ p.spans, ∀ z ∈ [s.1, s.2.1, s.2.2], 0 ≤ z ∧ z ≤ 999
  wires : ∀ x ∈ p.wires, ∀ z ∈ [x.1, x.2.1, x.2.2.1, x.2.2.2], 0 ≤ z ∧ z ≤ 999
  code : ∀ c ∈ p.code, (chk c).2 = 0
end Go.Proofs.YtajfgmlockjmhaiGreatDoor
namespace Go.Proofs.YtajfgmlockjmhaiGreatDoor

def isD (d : UInt8) : Prop := 48 ≤ d.toNat ∧ d.toNat ≤ 57
def valD (l : List UInt8) : Int := l.foldl (fun a d => a * 10 + (d.toNat : Int) - 48) 0
theorem valD_nil : valD [] = 0 := rfl
theorem valD_snoc (l : List UInt8) (d : UInt8) : valD (l ++ [d]) = valD l * 10 + (d.toNat : Int) - 48 := by simp [valD]
theorem u8_back {d : UInt8} (h : isD d) : UInt8.ofNat (48 + (d.toNat - 48)) = d := by
  have := h.1
  rw [show 48 + (d.toNat - 48) = d.toNat by omega]
  simp
theorem dec_step {q r : Nat} (hq : 1 ≤ q) (hr : r < 10) : Lib.decDigits (q * 10 + r) = Lib.decDigits q ++ [UInt8.ofNat (48 + r)] := by
  rw [Lib.decDigits, dif_neg (by omega)]
  rw [show (q * 10 + r) / 10 = q by omega, show (q * 10 + r) % 10 = r by omega]
theorem val_good : ∀ (k : Nat) (l : List UInt8), l.length = k → (∀ d ∈ l, isD d) → l ≠ [] → (l.head? = some 48 → l.length = 1) → 0 ≤ valD l ∧ Lib.decDigits (valD l).toNat = l ∧ (l.head? ≠ some 48 → 1 ≤ valD l)
  | 0, l, hl, _, hne, _ => absurd (List.eq_nil_of_length_eq_zero hl) hne
  | k + 1, l, hl, hd, hne, hh => by
    rcases List.eq_nil_or_concat l with rfl | ⟨m, d, rfl⟩
    · exact absurd rfl hne
    · have hdd : isD d := hd d (by simp)
      obtain ⟨h1, h2⟩ := hdd
      rw [List.concat_eq_append] at *
      rw [valD_snoc]
      by_cases hm : m = []
      · subst hm
        simp only [valD_nil, List.nil_append]
        refine ⟨by omega, ?_, ?_⟩
        · rw [show ((0 : Int) * 10 + (d.toNat : Int) - 48).toNat = d.toNat - 48 by omega, Lib.decDigits_one (by omega), u8_back ⟨h1, h2⟩]
        · intro hne48
          have : d.toNat ≠ 48 := fun e => hne48 (by simp; exact UInt8.toNat_inj.1 e)
          omega
      · have hhd : (m ++ [d]).head? = m.head? := by cases m with | nil => exact absurd rfl hm | cons x xs => rfl
        have hlm : m.length = k := by simpa using hl
        have hmp : 0 < m.length := List.length_pos_iff.2 hm
        have hm48 : m.head? ≠ some 48 := fun e => by
          have := hh (hhd.trans e)
          simp at this
          exact hm this
        obtain ⟨i1, i2, i3⟩ := val_good k m hlm (fun x hx => hd x (by simp [hx])) hm (fun e => absurd e hm48)
        have i4 := i3 hm48
        refine ⟨by omega, ?_, fun _ => by omega⟩
        have e : (valD m * 10 + (d.toNat : Int) - 48).toNat = (valD m).toNat * 10 + (d.toNat - 48) := by omega
        rw [e, dec_step (by omega) (by omega), i2, u8_back ⟨h1, h2⟩]
theorem dec_head (u : Nat) (h : (Lib.decDigits u).head? = some 48) : u = 0 := by
  induction u using Nat.strongRecOn with
  | _ u ih =>
    by_cases hu : u < 10
    · rw [Lib.decDigits_one hu] at h
      simp only [List.head?_cons, Option.some.injEq] at h
      have := congrArg UInt8.toNat h
      simp [UInt8.toNat_ofNat] at this
      omega
    · rw [Lib.decDigits, dif_neg hu] at h
      have hne := dec_ne (u / 10)
      have e : (Lib.decDigits (u / 10) ++ [UInt8.ofNat (48 + u % 10)]).head? = (Lib.decDigits (u / 10)).head? := by
        cases hx : Lib.decDigits (u / 10) with
        | nil => exact absurd hx hne
        | cons x xs => rfl
      have := ih (u / 10) (by omega) (e.symm.trans h)
      omega
end Go.Proofs.YtajfgmlockjmhaiGreatDoor
