/-
  Number, Laid2, NamesMath, BackMath, NumMath, Num7M, PlanBackM, EvTM, TcLM, TrcCP, Numb7, REvText, RefNum7, TcRun: joined into one text.
-/
import Derived.Test.YtfconbblnmbnpahGreatDoorJb2
import Derived.Lib.AtoiTie
import Derived.Lib.Strings
import Derived.Lay
import Derived.Test.YtfconbblnmbnpahGreatDoorJb1
import Derived.Deep.CutRange
import Derived.Deep.RegionLaw
namespace Go.Proofs.YtfconbblnmbnpahGreatDoor
open Go.RowKit

/-- The library's error for a wrong syntax lies in its variable. -/
def ErrS (w : World) : Prop := ∃ tp p, w.var? Tryz.prog "strconv.ErrSyntax" = some #[.iface tp p]
theorem gErr : Tryz.prog.globalNamed "strconv.ErrSyntax" = some 4 := by kernel_rfl
theorem ErrS.all {w w' : World} (h : ErrS w) (hb : Below w.heap.size w w') : ErrS w' := by
  obtain ⟨tp, p, h⟩ := h
  exact ⟨tp, p, Joins.var_stays gErr h hb (Nat.le_refl _)⟩
/-- All tables and variables that reading a text asks for. -/
structure Tabs2 (w : World) : Prop where
  tabs : Tabs w
  err : ErrS w
theorem Tabs2.all {w w' : World} (h : Tabs2 w) (hb : Below w.heap.size w w') : Tabs2 w' := ⟨h.tabs.all hb, h.err.all hb⟩
theorem Tabs2.alloc {w : World} (h : Tabs2 w) (o : Obj) : Tabs2 (w.alloc o) := h.all ((Below.refl _ _).alloc (Nat.le_refl _) _)

theorem atoi_range {l : List UInt8} {n : Int} (hl : l.length ≤ 18) (h : Lib.atoi l = some n) : -9223372036854775808 ≤ n ∧ n ≤ 9223372036854775807 :=
  Lib.atoiAll_bounds (l := l) (by rw [Lib.atoiAll_short l hl, h]; rfl)
theorem atoi_yes (s : ByteArray) (n : Int) (hl : s.size ≤ 18) (h : Lib.atoi s.data.toList = some n) (w : World) :
    Calls Tryz.prog 127 #[.string s] w fun e w' => e = .returned (.tuple #[.int .i64 n, .nilIface]) ∧ Below w.heap.size w w' := by
  refine (Tryz.strconv_Atoi s n hl h w).mono ?_
  rintro e w' ⟨rfl, t, rfl⟩
  exact ⟨rfl, Joins.below_bytesWorld _ _ _ _ (Nat.le_refl _)⟩
theorem atoi_no (s : ByteArray) (hl : s.size ≤ 18) (h : Lib.atoi s.data.toList = none) (w : World) (he : ErrS w) :
    Calls Tryz.prog 127 #[.string s] w fun e w' => ∃ t p, e = .returned (.tuple #[.int .i64 0, .iface t p]) ∧ Below w.heap.size w w' := by
  obtain ⟨tp, p, hv⟩ := he
  refine (Tryz.strconv_Atoi_err_var s hl h tp p w hv).mono ?_
  rintro e w' ⟨N, rfl, _, _, hb⟩
  exact ⟨_, _, rfl, hb⟩

set_option maxRecDepth 100000 in
set_option maxHeartbeats 2000000 in
theorem number_long (s : ByteArray) (w : World) (h : 4 < s.size) :
    Calls Tryz.prog 89 #[.string s, .int .i64 4] w fun e w' => e = .returned (.tuple #[.int .i64 0, .bool false]) ∧ Below w.heap.size w w' := by
  go_enter Tryz.func89, Tryz.ntmps89
  go_wp2
  go_ret2
  exact ⟨rfl, Below.refl _ _⟩
set_option maxRecDepth 100000 in
set_option maxHeartbeats 2000000 in
theorem number_bad (s : ByteArray) (w : World) (hl : s.size ≤ 4) (h : Lib.atoi s.data.toList = none) (he : ErrS w) :
    Calls Tryz.prog 89 #[.string s, .int .i64 4] w fun e w' => e = .returned (.tuple #[.int .i64 0, .bool false]) ∧ Below w.heap.size w w' := by
  have hat := atoi_no s (by omega) h w he
  clear h he
  go_enter Tryz.func89, Tryz.ntmps89
  go_wp2_with (go_at_call 127; refine hat.mono ?_; rintro e w1 ⟨t, p, rfl, b1⟩; clear hat)
  go_ret2
  exact ⟨rfl, b1⟩
set_option maxRecDepth 100000 in
set_option maxHeartbeats 2000000 in
theorem number_neg (s : ByteArray) (n : Int) (w : World) (hl : s.size ≤ 4) (h : Lib.atoi s.data.toList = some n) (hn : n < 0) :
    Calls Tryz.prog 89 #[.string s, .int .i64 4] w fun e w' => e = .returned (.tuple #[.int .i64 0, .bool false]) ∧ Below w.heap.size w w' := by
  have hat := atoi_yes s n (by omega) h w
  clear h
  go_enter Tryz.func89, Tryz.ntmps89
  go_wp2_with (go_at_call 127; refine hat.mono ?_; rintro e w1 ⟨rfl, b1⟩; clear hat)
  go_ret2
  exact ⟨rfl, b1⟩
set_option maxRecDepth 100000 in
set_option maxHeartbeats 2000000 in
theorem number_yes (s : ByteArray) (n : Int) (w : World) (hl : s.size ≤ 4) (h : Lib.atoi s.data.toList = some n) (hn : 0 ≤ n) (hp : Pow10 w) (hB : (Lib.itoa n == s.toList) = true) :
    Calls Tryz.prog 89 #[.string s, .int .i64 4] w fun e w' => e = .returned (.tuple #[.int .i64 n, .bool true]) ∧ Below w.heap.size w w' := by
  have hr := atoi_range (by simpa using (show s.size ≤ 18 by omega)) h
  have hat := atoi_yes s n (by omega) h w
  clear h
  go_enter Tryz.func89, Tryz.ntmps89
  go_wp2_with (first | (go_at_call 127; refine hat.mono ?_; rintro e w1 ⟨rfl, b1⟩; clear hat) | (go_at_call 83; refine (itoa_any n hr.1 hr.2 w1 (hp.all b1)).mono ?_; rintro e w2 ⟨rfl, b2⟩))
  go_ret2
  exact ⟨rfl, b1.trans (b2.mono b1.size)⟩
set_option maxRecDepth 100000 in
set_option maxHeartbeats 2000000 in
theorem number_other (s : ByteArray) (n : Int) (w : World) (hl : s.size ≤ 4) (h : Lib.atoi s.data.toList = some n) (hn : 0 ≤ n) (hp : Pow10 w) (hB : (Lib.itoa n == s.toList) = false) :
    Calls Tryz.prog 89 #[.string s, .int .i64 4] w fun e w' => e = .returned (.tuple #[.int .i64 0, .bool false]) ∧ Below w.heap.size w w' := by
  have hr := atoi_range (by simpa using (show s.size ≤ 18 by omega)) h
  have hat := atoi_yes s n (by omega) h w
  clear h
  go_enter Tryz.func89, Tryz.ntmps89
  go_wp2_with (first | (go_at_call 127; refine hat.mono ?_; rintro e w1 ⟨rfl, b1⟩; clear hat) | (go_at_call 83; refine (itoa_any n hr.1 hr.2 w1 (hp.all b1)).mono ?_; rintro e w2 ⟨rfl, b2⟩))
  go_ret2
  exact ⟨rfl, b1.trans (b2.mono b1.size)⟩

theorem number_any (s : ByteArray) (w : World) (ht : Tabs2 w) :
    Calls Tryz.prog 89 #[.string s, .int .i64 4] w fun e w' => e = .returned (numV s.data.toList) ∧ Below w.heap.size w w' := by
  have hsl : s.data.toList.length = s.size := by simp
  have hst : s.toList = s.data.toList := Lib.toList_data s
  unfold numV
  by_cases h1 : 4 < s.size
  · rw [numB_long (by omega)]; exact number_long s w h1
  · cases h2 : Lib.atoi s.data.toList with
    | none => rw [numB_bad h2]; exact number_bad s w (by omega) h2 ht.err
    | some n =>
      by_cases h3 : n < 0
      · rw [numB_neg h2 h3]; exact number_neg s n w (by omega) h2 h3
      · by_cases h4 : Lib.itoa n = s.data.toList
        · rw [numB_yes (by omega) h2 (by omega) h4]; exact number_yes s n w (by omega) h2 (by omega) ht.tabs.pow (by rw [hst]; simpa using h4)
        · rw [numB_other h2 h4]; exact number_other s n w (by omega) h2 (by omega) ht.tabs.pow (by rw [hst]; simpa using h4)
end Go.Proofs.YtfconbblnmbnpahGreatDoor
namespace Go.Proofs.YtfconbblnmbnpahGreatDoor
open Go.ChangeShapes Go.WideShapes Go.ChangeAt Go.WideElems Go.RowKit

theorem tErr : (Tryz.prog.globals[4]?).map (·.type) = some 35 := by kernel_rfl
set_option maxRecDepth 100000 in
theorem errS_of_head {W : World} {nm : String} {d : DataW Unit} {rest : List (String × DataW Unit)} (h : laidMet Tryz.prog (("strconv.ErrSyntax", .iface nm d) :: rest) W) : ErrS W := by
  obtain ⟨ps, ⟨g', t', cs, fuel, p, q, hg', ht', hvar, hd, _, _⟩, _⟩ := h
  obtain rfl := Option.some.inj (gErr.symm.trans hg')
  obtain rfl := Option.some.inj (tErr.symm.trans ht')
  obtain ⟨l⟩ := cs
  cases fuel with
  | zero => simp [DataW.trod] at hd
  | succ fuel =>
    unfold DataW.trod at hd
    rw [Tryz.underlying35] at hd
    split at hd <;> simp_all
    exact ⟨_, _, hvar⟩
end Go.Proofs.YtfconbblnmbnpahGreatDoor
namespace Go.Proofs.YtfconbblnmbnpahGreatDoor

theorem dec_mem (u : Nat) : ∀ x ∈ Lib.decDigits u, 48 ≤ x.toNat ∧ x.toNat ≤ 57 := by
  induction u using Nat.strongRecOn with
  | _ u ih =>
    intro x hx
    rw [Lib.decDigits] at hx
    split at hx
    · simp at hx; subst hx; simp; omega
    · rename_i h
      simp only [List.mem_append, List.mem_singleton] at hx
      rcases hx with hx | hx
      · exact ih (u / 10) (by omega) x hx
      · subst hx; simp; omega
theorem itoa_pos {z : Int} (h : 0 ≤ z) : Lib.itoa z = Lib.decDigits z.toNat := by unfold Lib.itoa; rw [if_neg (by omega)]
theorem itoa_mem {z : Int} (h : 0 ≤ z) : ∀ x ∈ Lib.itoa z, 48 ≤ x.toNat ∧ x.toNat ≤ 57 := by rw [itoa_pos h]; exact dec_mem _
theorem name_mem (n : Int) : ∀ x ∈ nameB n, 97 ≤ x.toNat ∧ x.toNat ≤ 122 := by
  unfold nameB
  repeat' split
  all_goals simp
theorem count_cut (c : UInt8) : ∀ (l cur : List UInt8), (cutGo c cur l).length = l.count c + 1
  | [], cur => by simp [cutGo]
  | x :: xs, cur => by
    by_cases h : x = c
    · rw [cutGo_hit h, List.length_cons, count_cut c xs, h, List.count_cons_self]
    · rw [cutGo_miss h, count_cut c xs, List.count_cons_of_ne h]
theorem count_none {c : UInt8} {l : List UInt8} (h : c ∉ l) : l.count c = 0 := List.count_eq_zero.2 h
theorem not_itoa {c : UInt8} {z : Int} (h : 0 ≤ z) (hc : c.toNat < 48) : c ∉ Lib.itoa z := fun hm => by have := itoa_mem h c hm; omega
theorem not_name {c : UInt8} {n : Int} (hc : c.toNat < 48) : c ∉ nameB n := fun hm => by have := name_mem n c hm; omega
theorem count_tail : ∀ (zs : List Int), (∀ z ∈ zs, 0 ≤ z) → (tail zs).count 32 = zs.length
  | [], _ => rfl
  | z :: zs, h => by
    have h1 := count_tail zs (fun y hy => h y (by simp [hy]))
    have h2 := count_none (not_itoa (c := 32) (h z (by simp)) (by decide))
    unfold tail at h1 ⊢
    rw [List.flatMap_cons, List.count_append, List.count_cons_self, h1, h2, List.length_cons]
    omega
theorem not_tail {c : UInt8} (hc : c.toNat < 48) (h32 : c ≠ 32) : ∀ (zs : List Int), (∀ z ∈ zs, 0 ≤ z) → c ∉ tail zs
  | [], _ => by simp [tail]
  | z :: zs, h => by
    have h1 := not_tail hc h32 zs (fun y hy => h y (by simp [hy]))
    have h2 := not_itoa (c := c) (h z (by simp)) hc
    unfold tail at h1 ⊢
    rw [List.flatMap_cons]
    simp only [List.mem_append, List.mem_cons, not_or]
    exact ⟨⟨h32, h2⟩, h1⟩
theorem cut_line {w : List UInt8} {zs : List Int} (hw : (10 : UInt8) ∉ w) (hz : ∀ z ∈ zs, 0 ≤ z) : cutB 10 (lineB w zs) = [w ++ tail zs, []] := by
  unfold lineB cutB
  have : (10 : UInt8) ∉ w ++ tail zs := by
    rw [List.mem_append, not_or]
    exact ⟨hw, not_tail (by decide) (by decide) zs hz⟩
  rw [cutGo_at 10 _ [] [] this]
  rfl
theorem cut_words {w : List UInt8} {zs : List Int} (hw : (32 : UInt8) ∉ w) (hz : ∀ z ∈ zs, 0 ≤ z) : (cutB 32 (w ++ tail zs)).length = zs.length + 1 := by
  unfold cutB
  rw [count_cut, List.count_append, count_none hw, count_tail zs hz]
  omega
theorem nums_pos {o : O3} (ha : 0 ≤ o.2.1) (hb : 0 ≤ o.2.2) : ∀ z ∈ numsB o, 0 ≤ z := by
  intro z hz
  unfold numsB at hz
  split at hz
  · simp at hz; omega
  · split at hz
    · simp at hz
    · simp at hz; omega
theorem nums_len (o : O3) : (numsB o).length = if o.1 = 7 then 1 else if o.1 = 10 ∨ o.1 = 11 then 0 else 2 := by
  unfold numsB
  repeat' split
  all_goals rfl
end Go.Proofs.YtfconbblnmbnpahGreatDoor
namespace Go.Proofs.YtfconbblnmbnpahGreatDoor

theorem digit_val {d : Nat} (h : d < 10) : Lib.digitVal (UInt8.ofNat (48 + d)) = some d := by
  have e : (UInt8.ofNat (48 + d)).toNat = 48 + d := by simp; omega
  unfold Lib.digitVal
  rw [e, if_pos (by omega)]
  congr 1
  omega
theorem decFrom_snoc (b : UInt8) (d : Nat) (hd : Lib.digitVal b = some d) : ∀ (l : List UInt8) (acc n : Nat), Lib.decFrom acc l = some n → Lib.decFrom acc (l ++ [b]) = some (n * 10 + d)
  | [], acc, n, h => by simp only [Lib.decFrom, Option.some.injEq] at h; subst h; simp [Lib.decFrom, hd]
  | x :: l, acc, n, h => by
    simp only [Lib.decFrom, List.cons_append] at h ⊢
    cases hx : Lib.digitVal x with
    | none => rw [hx] at h; cases h
    | some e => rw [hx] at h; simp only at h ⊢; exact decFrom_snoc b d hd l _ n h
theorem dec_from (u : Nat) : Lib.decFrom 0 (Lib.decDigits u) = some u := by
  induction u using Nat.strongRecOn with
  | _ u ih =>
    rw [Lib.decDigits]
    split
    · rename_i h
      rw [Lib.decFrom, digit_val h]
      simp [Lib.decFrom]
    · rename_i h
      rw [decFrom_snoc _ (u % 10) (digit_val (by omega)) _ 0 (u / 10) (ih (u / 10) (by omega))]
      congr 1
      omega
theorem dec_ne (u : Nat) : Lib.decDigits u ≠ [] := by
  rw [Lib.decDigits]
  split <;> simp
theorem atoi_dec (u : Nat) : Lib.atoi (Lib.decDigits u) = some (u : Int) := by
  cases h : Lib.decDigits u with
  | nil => exact absurd h (dec_ne u)
  | cons b r =>
    have hb := dec_mem u b (by rw [h]; simp)
    have h45 : (b == 45) = false := by simp; intro e; rw [e] at hb; simp at hb
    have h43 : (b == 43) = false := by simp; intro e; rw [e] at hb; simp at hb
    have hd := dec_from u
    rw [h] at hd
    simp [Lib.atoi, h45, h43, Lib.decNat, hd]
theorem dec_len {u : Nat} (h : u < 1000) : (Lib.decDigits u).length ≤ 3 := by
  by_cases h1 : u < 10
  · rw [Lib.decDigits_one h1]; simp
  · by_cases h2 : u < 100
    · rw [Lib.decDigits_two h1 h2]; simp
    · rw [Lib.decDigits, dif_neg h1, List.length_append]
      by_cases h3 : u / 10 < 10
      · rw [Lib.decDigits_one h3]; simp
      · rw [Lib.decDigits_two h3 (by omega)]; simp
theorem num_itoa {z : Int} (h0 : 0 ≤ z) (h1 : z ≤ 999) : numB (Lib.itoa z) = some z := by
  have e := itoa_pos h0
  refine numB_yes (by rw [e]; have := dec_len (u := z.toNat) (by omega); omega) ?_ h0 rfl
  rw [e, atoi_dec]
  congr 1
  omega
theorem nums_itoa : ∀ (zs : List Int), (∀ z ∈ zs, 0 ≤ z ∧ z ≤ 999) → numsOf (zs.map Lib.itoa) = some zs
  | [], _ => rfl
  | z :: zs, h => by
    have := nums_itoa zs (fun y hy => h y (by simp [hy]))
    simp [numsOf, num_itoa (h z (by simp)).1 (h z (by simp)).2, this]
theorem cut_tail (zs : List Int) (h : ∀ z ∈ zs, 0 ≤ z) : ∀ (cur : List UInt8), cutGo 32 cur (tail zs) = cur :: zs.map Lib.itoa := by
  induction zs with
  | nil => intro cur; rfl
  | cons z zs ih =>
    intro cur
    have e : tail (z :: zs) = 32 :: (Lib.itoa z ++ tail zs) := by simp [tail]
    rw [e, cutGo_hit rfl, cutGo_app 32 _ [] _ (not_itoa (h z (by simp)) (by decide)), List.nil_append, ih (fun y hy => h y (by simp [hy]))]
    rfl
theorem cut_body {p : List UInt8} (hp : (32 : UInt8) ∉ p) (zs : List Int) (h : ∀ z ∈ zs, 0 ≤ z) : cutB 32 (p ++ tail zs) = p :: zs.map Lib.itoa := by
  unfold cutB
  rw [cutGo_app 32 p [] _ hp, List.nil_append, cut_tail zs h]
theorem nums_small {o : O3} (ha : 0 ≤ o.2.1 ∧ o.2.1 ≤ 5) (hb : 0 ≤ o.2.2 ∧ o.2.2 ≤ 999) : ∀ z ∈ numsB o, 0 ≤ z ∧ z ≤ 999 := by
  intro z hz
  unfold numsB at hz
  split at hz
  · simp at hz; omega
  · split at hz
    · simp at hz
    · simp at hz; omega
theorem asm_nums (k : Nat) (a b : Int) (h1 : 1 ≤ k) (h2 : k ≤ 11) (h7 : k = 7 → a = 0) (h10 : k = 10 → a = 0 ∧ b = 0) (h11 : k = 11 → a = 0 ∧ b = 0) : asm k (numsB ((k : Int), a, b)) = some ((k : Int), a, b) := by
  have h : k = 1 ∨ k = 2 ∨ k = 3 ∨ k = 4 ∨ k = 5 ∨ k = 6 ∨ k = 7 ∨ k = 8 ∨ k = 9 ∨ k = 10 ∨ k = 11 := by omega
  rcases h with rfl | rfl | rfl | rfl | rfl | rfl | rfl | rfl | rfl | rfl | rfl
  case inr.inr.inr.inr.inr.inr.inl => obtain rfl := h7 rfl; rfl
  case inr.inr.inr.inr.inr.inr.inr.inr.inr.inl => obtain ⟨rfl, rfl⟩ := h10 rfl; rfl
  case inr.inr.inr.inr.inr.inr.inr.inr.inr.inr => obtain ⟨rfl, rfl⟩ := h11 rfl; rfl
  all_goals rfl
theorem opRead_opB {ops : Int} {o : O3} (hops : ops ≤ 1000) (h : ok3 ops o = true) : opRead (opB o) = some o := by
  have hr := ok3_range h
  have hs := ok3_small hops h
  obtain ⟨n, a, b⟩ := o
  simp only at hr hs
  obtain ⟨k, rfl⟩ : ∃ k : Nat, n = k := ⟨n.toNat, by omega⟩
  have hns := nums_small (o := ((k : Int), a, b)) ⟨hs.2.2.1, hs.2.2.2.1⟩ ⟨hs.2.2.2.2.1, hs.2.2.2.2.2⟩
  unfold opRead opB lineB
  rw [readB_snoc]
  unfold bodyB
  rw [cut_body (not_name (by decide)) _ (fun z hz => (hns z hz).1)]
  simp only
  rw [nums_itoa _ hns]
  simp only [Option.map_some]
  rw [named_hit k (by omega) (by omega)]
  refine asm_nums k a b (by omega) (by omega) (fun e => ?_) (fun e => ?_) (fun e => ?_)
  · subst e; have : bA ((7 : Nat) : Int) = 1 := rfl; omega
  · subst e
    have : bA ((10 : Nat) : Int) = 1 := rfl
    have : bB ((10 : Nat) : Int) ops = 1 := by simp [bB]
    omega
  · subst e
    have : bA ((11 : Nat) : Int) = 1 := rfl
    have : bB ((11 : Nat) : Int) ops = 1 := by simp [bB]
    omega
theorem lines_text (l : List O3) (h : ∀ o ∈ l, 0 ≤ o.2.1 ∧ 0 ≤ o.2.2) : linesB (textB l) = l.map opB := by
  induction l with
  | nil => rfl
  | cons o l ih =>
    have hno : (10 : UInt8) ∉ nameB o.1 ++ tail (numsB o) := by
      rw [List.mem_append, not_or]
      exact ⟨not_name (by decide), not_tail (by decide) (by decide) _ (nums_pos (h o (by simp)).1 (h o (by simp)).2)⟩
    have e : textB (o :: l) = (nameB o.1 ++ tail (numsB o)) ++ 10 :: textB l := by simp [textB, opB, lineB]
    rw [e, lines_at _ hno, ih (fun y hy => h y (by simp [hy]))]
    rfl
theorem ops_map {ops : Int} (hops : ops ≤ 1000) : ∀ (l : List O3), (∀ o ∈ l, ok3 ops o = true) → opsOf (l.map opB) = some l
  | [], _ => rfl
  | o :: l, h => by
    have := ops_map hops l (fun y hy => h y (by simp [hy]))
    simp [opsOf, opRead_opB hops (h o (by simp)), this]
/-- What is printed is read as it was. -/
theorem parse_print {l : List O3} (h : (chk l).2 = 0) : parseB (textB l) = (l, 0) := by
  obtain ⟨h0, h1, h2⟩ := chk_zero h
  refine parseB_ok ?_ h
  rw [lines_text l (fun o ho => by have := ok3_small (by omega) (h2 o ho); omega)]
  exact ops_map (by omega) l h2

theorem cut_join (c : UInt8) : ∀ (l cur : List UInt8) (p : List UInt8) (ps : List (List UInt8)), cutGo c cur l = p :: ps → cur ++ l = p ++ ps.flatMap (c :: ·)
  | [], cur, p, ps, h => by simp only [cutGo, List.cons.injEq] at h; obtain ⟨rfl, rfl⟩ := h; simp
  | x :: xs, cur, p, ps, h => by
    by_cases hx : x = c
    · rw [cutGo_hit hx] at h
      simp only [List.cons.injEq] at h
      obtain ⟨rfl, hps⟩ := h
      cases ps with
      | nil => have := (cutGo_len c xs []).1; rw [hps] at this; simp at this
      | cons q qs =>
        have := cut_join c xs [] q qs hps
        rw [List.nil_append] at this
        simp [hx, this]
    · rw [cutGo_miss hx] at h
      have := cut_join c xs (cur ++ [x]) p ps h
      simpa using this
theorem nums_back : ∀ (ps : List (List UInt8)) (ns : List Int), numsOf ps = some ns → ps.flatMap (32 :: ·) = tail ns
  | [], ns, h => by simp only [numsOf, Option.some.injEq] at h; subst h; rfl
  | p :: ps, ns, h => by
    simp only [numsOf] at h
    cases hp : numB p with
    | none => rw [hp] at h; cases h
    | some n =>
      rw [hp] at h
      cases hq : numsOf ps with
      | none => rw [hq] at h; cases h
      | some ms =>
        rw [hq] at h
        simp only [Option.map_some, Option.some.injEq] at h
        subst h
        have := nums_back ps ms hq
        rw [List.flatMap_cons, this, ← (numB_some hp).2.2]
        simp [tail]
theorem asm_back (k : Nat) (h1 : 1 ≤ k) (h2 : k ≤ 11) (ns : List Int) (o : O3) (h : asm k ns = some o) : o.1 = k ∧ numsB o = ns := by
  have hk : k = 1 ∨ k = 2 ∨ k = 3 ∨ k = 4 ∨ k = 5 ∨ k = 6 ∨ k = 7 ∨ k = 8 ∨ k = 9 ∨ k = 10 ∨ k = 11 := by omega
  rcases hk with rfl | rfl | rfl | rfl | rfl | rfl | rfl | rfl | rfl | rfl | rfl
  all_goals
    match ns, h with
    | [], h => revert h; simp [asm, asm2, stepN, pA, pB, bA, bB]; try (rintro rfl; decide)
    | [x], h => revert h; simp [asm, asm2, stepN, pA, pB, bA, bB]; try (rintro rfl; simp [numsB])
    | [x, y], h => revert h; simp [asm, asm2, stepN, pA, pB, bA, bB]; try (rintro rfl; simp [numsB])
    | x :: y :: z :: r, h => revert h; simp [asm, asm2, stepN, pA, pB, bA, bB]
theorem opRead_back {l : List UInt8} {o : O3} (h : opRead l = some o) : opB o = l := by
  unfold opRead at h
  cases hr : readB l with
  | none => rw [hr] at h; cases h
  | some pn =>
    obtain ⟨p, ns⟩ := pn
    rw [hr] at h
    simp only at h
    unfold readB at hr
    split at hr
    · rename_i hl
      obtain ⟨u, hu⟩ := List.getLast?_eq_some_iff.1 hl
      subst hu
      rw [List.dropLast_concat] at hr
      unfold bodyB at hr
      cases hc : cutB 32 u with
      | nil => rw [hc] at hr; cases hr
      | cons q qs =>
        rw [hc] at hr
        simp only at hr
        cases hq : numsOf qs with
        | none => rw [hq] at hr; cases hr
        | some ms =>
          rw [hq] at hr
          simp only [Option.map_some, Option.some.injEq, Prod.mk.injEq] at hr
          obtain ⟨rfl, rfl⟩ := hr
          have hj := cut_join 32 u [] _ _ hc
          rw [List.nil_append, nums_back _ _ hq] at hj
          rcases named_cases q with h0 | ⟨k, h1, h2, h3, h4⟩
          · rw [h0] at h; cases h
          · rw [h3] at h
            obtain ⟨e1, e2⟩ := asm_back k h1 h2 _ o h
            unfold opB lineB
            rw [e1, e2, ← h4, hj]
    · cases hr
theorem lines_join : ∀ (t cur : List UInt8), (linesGo cur t).flatten = cur ++ t
  | [], cur => by unfold linesGo; split <;> simp_all
  | x :: xs, cur => by
    unfold linesGo
    split
    · rename_i h; rw [List.flatten_cons, lines_join xs []]; simp [h]
    · rw [lines_join xs (cur ++ [x])]; simp
theorem ops_back : ∀ (ps : List (List UInt8)) (os : List O3), opsOf ps = some os → textB os = ps.flatten
  | [], os, h => by simp only [opsOf, Option.some.injEq] at h; subst h; rfl
  | p :: ps, os, h => by
    simp only [opsOf] at h
    cases hp : opRead p with
    | none => rw [hp] at h; cases h
    | some o =>
      rw [hp] at h
      cases hq : opsOf ps with
      | none => rw [hq] at h; cases h
      | some ms =>
        rw [hq] at h
        simp only [Option.map_some, Option.some.injEq] at h
        subst h
        have := ops_back ps ms hq
        rw [List.flatten_cons, ← this, ← opRead_back hp]
        simp [textB]
/-- What is read is printed as it was. -/
theorem print_parse {t : List UInt8} (h : (parseB t).2 = 0) : (chk (parseB t).1).2 = 0 ∧ textB (parseB t).1 = t := by
  cases ho : opsOf (linesB t) with
  | none => rw [parseB_bad ho] at h; cases h
  | some os =>
    by_cases h0 : (chk os).2 = 0
    · rw [parseB_ok ho h0]
      refine ⟨h0, ?_⟩
      rw [ops_back _ _ ho]
      exact lines_join t []
    · rw [parseB_err ho h0] at h
      exact absurd h h0
theorem ok3_more {m n : Int} {o : O3} (hmn : m ≤ n) (h : ok3 m o = true) : ok3 n o = true := by
  have hr := ok3_range h
  have hb : bB o.1 m ≤ bB o.1 n := by unfold bB; repeat' split <;> omega
  simp [ok3, fitsB]
  omega
theorem chk_more {l : List O3} {o : O3} (h : (chk l).2 = 0) (ho : (chk [o]).2 = 0) (hl : l.length < 20) : (chk (l ++ [o])).2 = 0 := by
  obtain ⟨h0, h1, h2⟩ := chk_zero h
  obtain ⟨_, _, h3⟩ := chk_zero ho
  rw [chk_zero_iff]
  refine ⟨by simp, by simp; omega, fun x hx => ?_⟩
  rw [List.mem_append] at hx
  rcases hx with hx | hx
  · exact ok3_more (by simp; omega) (h2 x hx)
  · simp at hx; subst hx; exact ok3_more (by simp; omega) (h3 x (by simp))
end Go.Proofs.YtfconbblnmbnpahGreatDoor
namespace Go.Proofs.YtfconbblnmbnpahGreatDoor

def isD (d : UInt8) : Prop := 48 ≤ d.toNat ∧ d.toNat ≤ 57
def valD (l : List UInt8) : Int := l.foldl (fun a d => a * 10 + (d.toNat : Int) - 48) 0
theorem valD_nil : valD [] = 0 := rfl
theorem valD_snoc (l : List UInt8) (d : UInt8) : valD (l ++ [d]) = valD l * 10 + (d.toNat : Int) - 48 := by simp [valD]
theorem u8_back {d : UInt8} (h : isD d) : UInt8.ofNat (48 + (d.toNat - 48)) = d := by
  have := h.1
  rw [show 48 + (d.toNat - 48) = d.toNat by omega]
  simp
theorem dec_step {q r : Nat} (hq : 1 ≤ q) (hr : r < 10) : Lib.decDigits (q * 10 + r) = Lib.decDigits q ++ [UInt8.ofNat (48 + r)] := by
  rw [Lib.decDigits, dif_neg (by omega)]
  rw [show (q * 10 + r) / 10 = q by omega, show (q * 10 + r) % 10 = r by omega]
theorem val_good : ∀ (k : Nat) (l : List UInt8), l.length = k → (∀ d ∈ l, isD d) → l ≠ [] → (l.head? = some 48 → l.length = 1) → 0 ≤ valD l ∧ Lib.decDigits (valD l).toNat = l ∧ (l.head? ≠ some 48 → 1 ≤ valD l)
  | 0, l, hl, _, hne, _ => absurd (List.eq_nil_of_length_eq_zero hl) hne
  | k + 1, l, hl, hd, hne, hh => by
    rcases List.eq_nil_or_concat l with rfl | ⟨m, d, rfl⟩
    · exact absurd rfl hne
    · have hdd : isD d := hd d (by simp)
      obtain ⟨h1, h2⟩ := hdd
      rw [List.concat_eq_append] at *
      rw [valD_snoc]
      by_cases hm : m = []
      · subst hm
        simp only [valD_nil, List.nil_append]
        refine ⟨by omega, ?_, ?_⟩
        · rw [show ((0 : Int) * 10 + (d.toNat : Int) - 48).toNat = d.toNat - 48 by omega, Lib.decDigits_one (by omega), u8_back ⟨h1, h2⟩]
        · intro hne48
          have : d.toNat ≠ 48 := fun e => hne48 (by simp; exact UInt8.toNat_inj.1 e)
          omega
      · have hhd : (m ++ [d]).head? = m.head? := by cases m with | nil => exact absurd rfl hm | cons x xs => rfl
        have hlm : m.length = k := by simpa using hl
        have hmp : 0 < m.length := List.length_pos_iff.2 hm
        have hm48 : m.head? ≠ some 48 := fun e => by
          have := hh (hhd.trans e)
          simp at this
          exact hm this
        obtain ⟨i1, i2, i3⟩ := val_good k m hlm (fun x hx => hd x (by simp [hx])) hm (fun e => absurd e hm48)
        have i4 := i3 hm48
        refine ⟨by omega, ?_, fun _ => by omega⟩
        have e : (valD m * 10 + (d.toNat : Int) - 48).toNat = (valD m).toNat * 10 + (d.toNat - 48) := by omega
        rw [e, dec_step (by omega) (by omega), i2, u8_back ⟨h1, h2⟩]
theorem dec_head (u : Nat) (h : (Lib.decDigits u).head? = some 48) : u = 0 := by
  induction u using Nat.strongRecOn with
  | _ u ih =>
    by_cases hu : u < 10
    · rw [Lib.decDigits_one hu] at h
      simp only [List.head?_cons, Option.some.injEq] at h
      have := congrArg UInt8.toNat h
      simp [UInt8.toNat_ofNat] at this
      omega
    · rw [Lib.decDigits, dif_neg hu] at h
      have hne := dec_ne (u / 10)
      have e : (Lib.decDigits (u / 10) ++ [UInt8.ofNat (48 + u % 10)]).head? = (Lib.decDigits (u / 10)).head? := by
        cases hx : Lib.decDigits (u / 10) with
        | nil => exact absurd hx hne
        | cons x xs => rfl
      have := ih (u / 10) (by omega) (e.symm.trans h)
      omega
theorem numB_form {l : List UInt8} {n : Int} (h : numB l = some n) : l.length ≤ 4 ∧ l = Lib.decDigits n.toNat := by
  obtain ⟨h1, h2, h3⟩ := numB_some h
  rw [itoa_pos h2] at h3
  exact ⟨h1, h3.symm⟩
theorem num_empty : numB [] = none := by
  cases h : numB [] with
  | none => rfl
  | some n => exact absurd (numB_form h).2.symm (dec_ne _)
theorem num_zero {l : List UInt8} (h0 : l.head? = some 48) (h1 : 1 < l.length) : numB l = none := by
  cases h : numB l with
  | none => rfl
  | some n =>
    have hl := (numB_form h).2
    have hz := dec_head n.toNat (by rw [← hl]; exact h0)
    rw [hz] at hl
    rw [hl, Lib.decDigits_one (by omega)] at h1
    simp at h1
theorem num_nodigit {l : List UInt8} {d : UInt8} (hm : d ∈ l) (hd : d.toNat < 48 ∨ 57 < d.toNat) : numB l = none := by
  cases h : numB l with
  | none => rfl
  | some n =>
    have hl := (numB_form h).2
    rw [hl] at hm
    have := dec_mem _ d hm
    omega
theorem num_good {l : List UInt8} (hd : ∀ d ∈ l, isD d) (hne : l ≠ []) (h4 : l.length ≤ 4) (hh : l.head? = some 48 → l.length = 1) : numB l = some (valD l) := by
  obtain ⟨h1, h2, _⟩ := val_good l.length l rfl hd hne hh
  have ha := atoi_dec (valD l).toNat
  rw [h2, show (((valD l).toNat : Nat) : Int) = valD l by omega] at ha
  exact numB_yes h4 ha h1 (by rw [itoa_pos h1]; exact h2)
theorem valD_le : ∀ (l : List UInt8), (∀ d ∈ l, isD d) → l.length ≤ 4 → 0 ≤ valD l ∧ valD l ≤ 9999
  | [], _, _ => by simp [valD_nil]
  | [a], h, _ => by have := h a (by simp); unfold isD at this; simp only [valD, List.foldl]; omega
  | [a, b], h, _ => by have := h a (by simp); have := h b (by simp); unfold isD at *; simp only [valD, List.foldl]; omega
  | [a, b, c], h, _ => by have := h a (by simp); have := h b (by simp); have := h c (by simp); unfold isD at *; simp only [valD, List.foldl]; omega
  | [a, b, c, d], h, _ => by have := h a (by simp); have := h b (by simp); have := h c (by simp); have := h d (by simp); unfold isD at *; simp only [valD, List.foldl]; omega
  | a :: b :: c :: d :: e :: l, _, h => by simp at h
end Go.Proofs.YtfconbblnmbnpahGreatDoor
namespace Go.Proofs.YtfconbblnmbnpahGreatDoor

/-- The number that a word of at most seven bytes is. -/
def numB7 (l : List UInt8) : Option Int :=
  if l.length ≤ 7 then match Lib.atoi l with
    | some n => if 0 ≤ n ∧ Lib.itoa n = l then some n else none
    | none => none
  else none
theorem numB7_long {l : List UInt8} (h : 7 < l.length) : numB7 l = none := by unfold numB7; rw [if_neg (by omega)]
theorem numB7_bad {l : List UInt8} (h : Lib.atoi l = none) : numB7 l = none := by unfold numB7; rw [h]; split <;> rfl
theorem numB7_neg {l : List UInt8} {n : Int} (h : Lib.atoi l = some n) (h0 : n < 0) : numB7 l = none := by
  unfold numB7; rw [h]; split
  · simp only; rw [if_neg (by omega)]
  · rfl
theorem numB7_other {l : List UInt8} {n : Int} (h : Lib.atoi l = some n) (h0 : Lib.itoa n ≠ l) : numB7 l = none := by
  unfold numB7; rw [h]; split
  · simp only; rw [if_neg (fun hh => h0 hh.2)]
  · rfl
theorem numB7_yes {l : List UInt8} {n : Int} (hl : l.length ≤ 7) (h : Lib.atoi l = some n) (h0 : 0 ≤ n) (h1 : Lib.itoa n = l) : numB7 l = some n := by
  unfold numB7; rw [if_pos hl, h]; simp only; rw [if_pos ⟨h0, h1⟩]
theorem numB7_some {l : List UInt8} {n : Int} (h : numB7 l = some n) : l.length ≤ 7 ∧ 0 ≤ n ∧ Lib.itoa n = l := by
  by_cases h1 : l.length ≤ 7
  · cases h2 : Lib.atoi l with
    | none => rw [numB7_bad h2] at h; cases h
    | some m =>
      by_cases h3 : 0 ≤ m
      · by_cases h4 : Lib.itoa m = l
        · rw [numB7_yes h1 h2 h3 h4] at h
          obtain rfl := Option.some.inj h
          exact ⟨h1, h3, h4⟩
        · rw [numB7_other h2 h4] at h; cases h
      · rw [numB7_neg h2 (by omega)] at h; cases h
  · rw [numB7_long (by omega)] at h; cases h
theorem numB7_form {l : List UInt8} {n : Int} (h : numB7 l = some n) : l.length ≤ 7 ∧ l = Lib.decDigits n.toNat := by
  obtain ⟨h1, h2, h3⟩ := numB7_some h
  rw [itoa_pos h2] at h3
  exact ⟨h1, h3.symm⟩
theorem num7_empty : numB7 [] = none := by
  cases h : numB7 [] with
  | none => rfl
  | some n => exact absurd (numB7_form h).2.symm (dec_ne _)
theorem num7_zero {l : List UInt8} (h0 : l.head? = some 48) (h1 : 1 < l.length) : numB7 l = none := by
  cases h : numB7 l with
  | none => rfl
  | some n =>
    have hl := (numB7_form h).2
    have hz := dec_head n.toNat (by rw [← hl]; exact h0)
    rw [hz] at hl
    rw [hl, Lib.decDigits_one (by omega)] at h1
    simp at h1
theorem num7_nodigit {l : List UInt8} {d : UInt8} (hm : d ∈ l) (hd : d.toNat < 48 ∨ 57 < d.toNat) : numB7 l = none := by
  cases h : numB7 l with
  | none => rfl
  | some n =>
    have hl := (numB7_form h).2
    rw [hl] at hm
    have := dec_mem _ d hm
    omega
theorem num7_good {l : List UInt8} (hd : ∀ d ∈ l, isD d) (hne : l ≠ []) (h4 : l.length ≤ 7) (hh : l.head? = some 48 → l.length = 1) : numB7 l = some (valD l) := by
  obtain ⟨h1, h2, _⟩ := val_good l.length l rfl hd hne hh
  have ha := atoi_dec (valD l).toNat
  rw [h2, show (((valD l).toNat : Nat) : Int) = valD l by omega] at ha
  exact numB7_yes h4 ha h1 (by rw [itoa_pos h1]; exact h2)
theorem valD_pow : ∀ (k : Nat) (l : List UInt8), l.length = k → (∀ d ∈ l, isD d) → 0 ≤ valD l ∧ valD l < (10 : Int) ^ k
  | 0, l, h, _ => by
    have : l = [] := List.eq_nil_of_length_eq_zero h
    subst this
    rw [valD_nil]
    decide
  | k + 1, l, h, hd => by
    rcases List.eq_nil_or_concat l with e | ⟨l', d, e⟩
    · rw [e] at h; simp at h
    · rw [List.concat_eq_append] at e
      subst e
      rw [List.length_append, List.length_singleton] at h
      obtain ⟨h1, h2⟩ := valD_pow k l' (by omega) (fun x hx => hd x (List.mem_append_left _ hx))
      have h3 := hd d (List.mem_append_right _ (by simp))
      unfold isD at h3
      rw [valD_snoc, Int.pow_succ]
      omega
theorem valD_le7 (l : List UInt8) (hd : ∀ d ∈ l, isD d) (h : l.length ≤ 7) : 0 ≤ valD l ∧ valD l ≤ 9999999 := by
  obtain ⟨h1, h2⟩ := valD_pow l.length l rfl hd
  refine ⟨h1, ?_⟩
  have hc : l.length = 0 ∨ l.length = 1 ∨ l.length = 2 ∨ l.length = 3 ∨ l.length = 4 ∨ l.length = 5 ∨ l.length = 6 ∨ l.length = 7 := by omega
  rcases hc with e | e | e | e | e | e | e | e <;> (rw [e] at h2; simp at h2; omega)
theorem digK : ∀ (k u : Nat), u < 10 ^ (k + 1) → Lib.nDigits u ≤ k + 1
  | 0, u, h => by rw [Lib.nDigits_small (by simpa using h)]; omega
  | k + 1, u, h => by
    by_cases h1 : u < 10
    · rw [Lib.nDigits_small h1]; omega
    · rw [Lib.nDigits_big h1]
      have := digK k (u / 10) (by rw [Nat.pow_succ] at h; omega)
      omega
theorem dig7 {u : Nat} (h : u ≤ 9999999) : Lib.nDigits u ≤ 7 := digK 6 u (Nat.lt_of_le_of_lt h (by decide))
/-- A number of at most seven digits is read as it was. -/
theorem num7_itoa {z : Int} (h0 : 0 ≤ z) (h1 : z ≤ 9999999) : numB7 (Lib.itoa z) = some z := by
  obtain ⟨u, rfl⟩ : ∃ u : Nat, z = u := ⟨z.toNat, by omega⟩
  have hi : Lib.itoa (u : Int) = Lib.decDigits u := by rw [itoa_pos (by omega)]; simp
  rw [hi]
  refine numB7_yes ?_ (atoi_dec u) (by omega) hi
  have : u ≤ 9999999 := by omega
  rw [Lib.decDigits_length]
  exact dig7 this
end Go.Proofs.YtfconbblnmbnpahGreatDoor
namespace Go.Proofs.YtfconbblnmbnpahGreatDoor

theorem body_tail {w : List UInt8} (hw : (32 : UInt8) ∉ w) {zs : List Int} (h : ∀ z ∈ zs, 0 ≤ z ∧ z ≤ 999) : bodyB (w ++ tail zs) = some (w, zs) := by
  unfold bodyB
  rw [cut_body hw zs (fun z hz => (h z hz).1)]
  simp only
  rw [nums_itoa zs h]
  rfl
theorem body_back {u w : List UInt8} {ns : List Int} (h : bodyB u = some (w, ns)) : w ++ tail ns = u := by
  unfold bodyB at h
  cases hc : cutB 32 u with
  | nil => rw [hc] at h; cases h
  | cons q qs =>
    rw [hc] at h
    simp only at h
    cases hq : numsOf qs with
    | none => rw [hq] at h; cases h
    | some ms =>
      rw [hq] at h
      simp only [Option.map_some, Option.some.injEq, Prod.mk.injEq] at h
      obtain ⟨rfl, rfl⟩ := h
      have hj := cut_join 32 u [] _ _ hc
      rw [List.nil_append, nums_back _ _ hq] at hj
      exact hj.symm
theorem spanOf_back {u : List UInt8} {s : S3} (h : spanOf u = some s) : spanL s = u := by
  unfold spanOf at h
  split at h
  · rename_i p a b c hb
    split at h
    · rename_i hp
      simp only [Option.some.injEq] at h
      subst h
      subst hp
      exact body_back hb
    · cases h
  · cases h
theorem wireOf_back {u : List UInt8} {s : W4} (h : wireOf u = some s) : wireL s = u := by
  unfold wireOf at h
  split at h
  · rename_i p a b c d hb
    split at h
    · rename_i hp
      simp only [Option.some.injEq] at h
      subst h
      subst hp
      exact body_back hb
    · cases h
  · cases h
theorem frameOf_back {u : List UInt8} {n : Int} (h : frameOf u = some n) : frameL n = u := by
  unfold frameOf at h
  split at h
  · rename_i p a hb
    split at h
    · rename_i hp
      simp only [Option.some.injEq] at h
      subst h
      subst hp
      exact body_back hb
    · cases h
  · cases h
theorem takeF_back {α : Type} {f : List UInt8 → Option α} {g : α → List UInt8} (h : ∀ u s, f u = some s → g s = u) : ∀ r, (takeF f r).1.map g ++ (takeF f r).2 = r
  | [] => rfl
  | u :: r => by
    cases hu : f u with
    | none => rw [takeF_no hu]; rfl
    | some s =>
      rw [takeF_yes hu]
      simp only [List.map_cons, List.cons_append, h u s hu, takeF_back h r]
theorem onto_back {acc a : List (List O3)} {o : O3} (h : onto acc o = some a) : a.flatMap roomL = acc.flatMap roomL ++ [opL o] := by
  unfold onto at h
  split at h
  · cases h
  · rename_i c hc
    simp only [Option.some.injEq] at h
    subst h
    obtain ⟨u, hu⟩ := List.getLast?_eq_some_iff.1 hc
    subst hu
    rw [List.dropLast_concat]
    simp [roomL]
theorem opRead_line {u : List UInt8} {o : O3} (h : opRead (u ++ [10]) = some o) : opL o = u := by
  have := opRead_back h
  have e : opB o = opL o ++ [10] := rfl
  rw [e] at this
  exact List.append_cancel_right this
theorem roomsOf_back : ∀ (r : List (List UInt8)) (acc cs : List (List O3)), roomsOf acc r = some cs → cs.flatMap roomL = acc.flatMap roomL ++ r
  | [], acc, cs, h => by simp only [roomsOf, Option.some.injEq] at h; subst h; simp
  | u :: r, acc, cs, h => by
    rw [roomsOf] at h
    split at h
    · rename_i hu
      rw [roomsOf_back r _ cs h, hu]
      simp [roomL]
    · split at h
      · cases h
      · rename_i o ho
        split at h
        · cases h
        · rename_i a ha
          rw [roomsOf_back r a cs h, onto_back ha, opRead_line ho]
          simp
theorem planOf_back {ps : List (List UInt8)} {p : PD} (h : planOf ps = some p) : planL p = ps := by
  cases ps with
  | nil => cases h
  | cons u r =>
    rw [planOf] at h
    split at h
    · cases h
    · rename_i n hn
      split at h
      · cases h
      · rename_i cs hcs
        simp only [Option.some.injEq] at h
        subst h
        have e1 := takeF_back (fun _ _ h => spanOf_back h) r
        have e2 := takeF_back (fun _ _ h => wireOf_back h) (takeF spanOf r).2
        have e3 := roomsOf_back _ _ _ hcs
        simp only [List.flatMap_nil, List.nil_append] at e3
        unfold planL
        simp only
        rw [e3, e2, e1, frameOf_back hn]
theorem cut_end {t : List UInt8} {ps : List (List UInt8)} (h : cutB 10 t = ps ++ [[]]) : endL ps = t := by
  obtain ⟨ps', q, h1, _, h3⟩ := cut_lines t [] (by simp)
  have e : ps' ++ [q] = ps ++ [[]] := h1.symm.trans h
  obtain ⟨rfl, e2⟩ := List.append_inj' e rfl
  simp only [List.cons.injEq, and_true] at e2
  subst e2
  rw [if_pos rfl, List.append_nil] at h3
  have hj := lines_join t []
  rw [h3, List.nil_append] at hj
  rw [← hj, endL, List.flatMap_def]
/-- What is read is printed as it was. -/
theorem plan_back {t : List UInt8} (h : (planP t).2 = 0) : plchk (planP t).1 = 0 ∧ planB (planP t).1 = t := by
  unfold planP at h ⊢
  split at h
  · rename_i hq
    rw [if_pos hq]
    obtain ⟨ps, hps⟩ := List.getLast?_eq_some_iff.1 hq
    rw [hps, List.dropLast_concat] at h ⊢
    cases ho : planOf ps with
    | none => rw [ho, planR_none] at h; cases h
    | some p =>
      rw [ho] at h
      by_cases hk : plchk p = 0
      · rw [planR_ok hk]
        refine ⟨hk, ?_⟩
        simp only
        unfold planB
        rw [planOf_back ho]
        exact cut_end hps
      · rw [planR_bad hk] at h
        exact absurd h hk
  · cases h

theorem cut_endL : ∀ (ls : List (List UInt8)), (∀ u ∈ ls, (10 : UInt8) ∉ u) → cutB 10 (endL ls) = ls ++ [[]]
  | [], _ => rfl
  | u :: ls, h => by
    have e : endL (u :: ls) = u ++ 10 :: endL ls := by simp [endL]
    rw [e]
    unfold cutB
    rw [cutGo_at 10 u [] _ (h u (by simp)), List.nil_append, cut_endL ls (fun v hv => h v (by simp [hv]))]
    rfl
theorem not_word {w : List UInt8} {zs : List Int} (hw : (10 : UInt8) ∉ w) (h : ∀ z ∈ zs, 0 ≤ z) : (10 : UInt8) ∉ w ++ tail zs := by
  rw [List.mem_append, not_or]
  exact ⟨hw, not_tail (by decide) (by decide) zs h⟩
/-- What a plan that is right has for numbers. -/
structure Small (p : PD) : Prop where
  ticks : 0 ≤ p.ticks ∧ p.ticks ≤ 999
  spans : ∀ s ∈ p.spans, ∀ z ∈ [s.1, s.2.1, s.2.2], 0 ≤ z ∧ z ≤ 999
  wires : ∀ x ∈ p.wires, ∀ z ∈ [x.1, x.2.1, x.2.2.1, x.2.2.2], 0 ≤ z ∧ z ≤ 999
  code : ∀ c ∈ p.code, (chk c).2 = 0
theorem plan_small {p : PD} (h : plchk p = 0) : Small p := by
  obtain ⟨_, _, hf, hw, _, _, hc, _⟩ := plchk_zero h
  obtain ⟨f1, f2, _, f3, _⟩ := fchk_zero hf
  refine ⟨by omega, fun s hs z hz => ?_, fun x hx z hz => ?_, codesE_zero hc⟩
  · have := f3 s hs
    simp only [spOk, decide_eq_true_eq] at this
    simp only [List.mem_cons, List.not_mem_nil, or_false] at hz
    omega
  · have h0 := (wschk_ok hw).2 x hx
    have h1 := w4_rooms h0
    have h2 := wchk_kind h0
    simp only [List.mem_cons, List.not_mem_nil, or_false] at hz
    omega
theorem takeF_map {α : Type} {f : List UInt8 → Option α} {g : α → List UInt8} : ∀ (l : List α) (r : List (List UInt8)), (∀ x ∈ l, f (g x) = some x) → takeF f r = ([], r) → takeF f (l.map g ++ r) = (l, r)
  | [], r, _, h => h
  | x :: l, r, hx, h => by
    rw [List.map_cons, List.cons_append, takeF_yes (hx x (by simp)), takeF_map l r (fun y hy => hx y (by simp [hy])) h]
theorem spanOf_L {s : S3} (h : ∀ z ∈ [s.1, s.2.1, s.2.2], 0 ≤ z ∧ z ≤ 999) : spanOf (spanL s) = some s := by
  unfold spanOf spanL
  rw [body_tail (by decide) h]
  rfl
theorem wireOf_L {s : W4} (h : ∀ z ∈ [s.1, s.2.1, s.2.2.1, s.2.2.2], 0 ≤ z ∧ z ≤ 999) : wireOf (wireL s) = some s := by
  unfold wireOf wireL
  rw [body_tail (by decide) h]
  rfl
theorem frameOf_L {n : Int} (h : 0 ≤ n ∧ n ≤ 999) : frameOf (frameL n) = some n := by
  unfold frameOf frameL
  rw [body_tail (by decide) (fun z hz => by simp at hz; subst hz; exact h)]
  rfl
theorem spanOf_wire {s : W4} (h : ∀ z ∈ [s.1, s.2.1, s.2.2.1, s.2.2.2], 0 ≤ z ∧ z ≤ 999) : spanOf (wireL s) = none := by
  unfold spanOf wireL
  rw [body_tail (by decide) h]
theorem room_body : bodyB wRoom = some (wRoom, []) := bodyB_no (by decide)
theorem spanOf_room : spanOf wRoom = none := by unfold spanOf; rw [room_body]
theorem wireOf_room : wireOf wRoom = none := by unfold wireOf; rw [room_body]
theorem opRead_room : opRead (wRoom ++ [10]) = none := by
  unfold opRead
  rw [readB_snoc, room_body]
  rfl
theorem opRead_L {ops : Int} {o : O3} (hops : ops ≤ 1000) (h : ok3 ops o = true) : opRead (opL o ++ [10]) = some o := opRead_opB hops h
theorem opL_room {ops : Int} {o : O3} (hops : ops ≤ 1000) (h : ok3 ops o = true) : opL o ≠ wRoom := fun e => by
  have := opRead_L hops h
  rw [e, opRead_room] at this
  cases this
theorem roomsOf_ops {ops : Int} (hops : ops ≤ 1000) (acc : List (List O3)) (r : List (List UInt8)) : ∀ (d c : List O3), (∀ o ∈ d, ok3 ops o = true) → roomsOf (acc ++ [c]) (d.map opL ++ r) = roomsOf (acc ++ [c ++ d]) r
  | [], c, _ => by simp
  | o :: d, c, h => by
    have ho := h o (by simp)
    have e : onto (acc ++ [c]) o = some (acc ++ [c ++ [o]]) := by simp [onto]
    rw [List.map_cons, List.cons_append, roomsOf, if_neg (opL_room hops ho), opRead_L hops ho]
    simp only
    rw [e]
    simp only
    rw [roomsOf_ops hops acc r d (c ++ [o]) (fun x hx => h x (by simp [hx]))]
    simp
theorem roomsOf_L : ∀ (cs acc : List (List O3)), (∀ c ∈ cs, (chk c).2 = 0) → roomsOf acc (cs.flatMap roomL) = some (acc ++ cs)
  | [], acc, _ => by simp [roomsOf]
  | c :: cs, acc, h => by
    obtain ⟨_, h1, h2⟩ := chk_zero (h c (by simp))
    have e : (c :: cs).flatMap roomL = wRoom :: (c.map opL ++ cs.flatMap roomL) := by simp [roomL]
    rw [e, roomsOf, if_pos rfl, roomsOf_ops (ops := c.length) (by omega) acc _ c [] h2, List.nil_append, roomsOf_L cs (acc ++ [c]) (fun x hx => h x (by simp [hx]))]
    simp
theorem planOf_L {p : PD} (h : Small p) (h0 : p.code.length ≠ 0) : planOf (planL p) = some p := by
  obtain ⟨c, cs, hc⟩ : ∃ c cs, p.code = c :: cs := by
    cases hp : p.code with
    | nil => rw [hp] at h0; exact absurd rfl h0
    | cons c cs => exact ⟨c, cs, rfl⟩
  have er : p.code.flatMap roomL = wRoom :: (c.map opL ++ cs.flatMap roomL) := by rw [hc]; simp [roomL]
  have e1 : takeF wireOf (p.code.flatMap roomL) = ([], p.code.flatMap roomL) := by rw [er]; exact takeF_no wireOf_room _
  have e2 := takeF_map p.wires (p.code.flatMap roomL) (fun x hx => wireOf_L (h.wires x hx)) e1
  have e3 : takeF spanOf (p.wires.map wireL ++ p.code.flatMap roomL) = ([], p.wires.map wireL ++ p.code.flatMap roomL) := by
    cases hw : p.wires with
    | nil => rw [List.map_nil, List.nil_append, er]; exact takeF_no spanOf_room _
    | cons x xs => rw [List.map_cons, List.cons_append]; exact takeF_no (spanOf_wire (h.wires x (by rw [hw]; simp))) _
  have e4 := takeF_map p.spans _ (fun x hx => spanOf_L (h.spans x hx)) e3
  have e5 := roomsOf_L p.code [] h.code
  unfold planL
  rw [planOf, frameOf_L h.ticks]
  simp only
  rw [e4]
  simp only
  rw [e2]
  simp only
  rw [e5, List.nil_append]
theorem plan_lines {p : PD} (h : Small p) : ∀ u ∈ planL p, (10 : UInt8) ∉ u := by
  intro u hu
  simp only [planL, List.mem_cons, List.mem_append, List.mem_map, List.mem_flatMap] at hu
  rcases hu with rfl | ⟨s, hs, rfl⟩ | ⟨x, hx, rfl⟩ | ⟨c, hc, hu⟩
  · exact not_word (by decide) (fun z hz => by simp at hz; subst hz; exact h.ticks.1)
  · exact not_word (by decide) (fun z hz => (h.spans s hs z hz).1)
  · exact not_word (by decide) (fun z hz => (h.wires x hx z hz).1)
  · simp only [roomL, List.mem_cons, List.mem_map] at hu
    rcases hu with rfl | ⟨o, ho, rfl⟩
    · decide
    · obtain ⟨_, h1, h2⟩ := chk_zero (h.code c hc)
      have := ok3_small (by omega) (h2 o ho)
      exact not_word (not_name (by decide)) (nums_pos (by omega) (by omega))
/-- What is printed is read as it was. -/
theorem plan_read {p : PD} (h : plchk p = 0) : planP (planB p) = (p, 0) := by
  have hs := plan_small h
  have hc := cut_endL (planL p) (plan_lines hs)
  rw [planP_shut (t := planB p) hc, planOf_L hs (plchk_zero h).2.1, planR_ok h]
end Go.Proofs.YtfconbblnmbnpahGreatDoor
namespace Go.Proofs.YtfconbblnmbnpahGreatDoor

/-- A room as text: '-' of none. -/
def rmB (r : Int) : List UInt8 := if r = -1 then [45] else Lib.itoa r
/-- An event as a line. -/
def evL (e : W4) : List UInt8 := Lib.itoa e.1 ++ 32 :: (rmB e.2.1 ++ tail [e.2.2.1, e.2.2.2])
def evB (l : List W4) : List UInt8 := endL (l.map evL)
/-- A room that a word is. -/
def rmOf (b : List UInt8) : Option Int := if b = [45] then some (-1) else numB7 b
def ev4 : Option Int → Option Int → Option Int → Option Int → Option W4
  | some a, some b, some c, some d => some (a, b, c, d)
  | _, _, _, _ => none
/-- The event that a line is. -/
def evOf1 (u : List UInt8) : Option W4 := match cutB 32 u with
  | [a, b, c, d] => ev4 (numB7 a) (rmOf b) (numB7 c) (numB7 d)
  | _ => none
def evsOf : List (List UInt8) → Option (List W4)
  | [] => some []
  | u :: ls => match evOf1 u, evsOf ls with
    | some e, some l => some (e :: l)
    | _, _ => none
def evR (o : Option (List W4)) : List W4 × Int := match o with
  | none => ([], 2)
  | some l => if evchk l = 0 then (l, 0) else ([], evchk l)
/-- A text as events. -/
def evP (t : List UInt8) : List W4 × Int := if (cutB 10 t).getLast? = some [] then evR (evsOf (cutB 10 t).dropLast) else ([], 2)
theorem evP_open {t : List UInt8} {ps : List (List UInt8)} {q : List UInt8} (h : cutB 10 t = ps ++ [q]) (hq : q ≠ []) : evP t = ([], 2) := by
  unfold evP
  rw [h, List.getLast?_concat, if_neg (by simpa using hq)]
theorem evP_shut {t : List UInt8} {ps : List (List UInt8)} (h : cutB 10 t = ps ++ [[]]) : evP t = evR (evsOf ps) := by
  unfold evP
  rw [h, List.getLast?_concat, if_pos rfl, List.dropLast_concat]
theorem rm_back {b : List UInt8} {r : Int} (h : rmOf b = some r) : rmB r = b := by
  unfold rmOf at h
  split at h
  · rename_i hb
    obtain rfl := Option.some.inj h
    rw [hb]
    rfl
  · obtain ⟨_, h0, h1⟩ := numB7_some h
    unfold rmB
    rw [if_neg (by omega)]
    exact h1
theorem itoa_not {z : Int} (h : 0 ≤ z) {c : UInt8} (hc : c.toNat < 48) : c ∉ Lib.itoa z := fun hm => by
  have := itoa_mem h c hm
  omega
theorem rm_itoa {r : Int} (h : -1 ≤ r ∧ r ≤ 4) : rmOf (rmB r) = some r := by
  unfold rmB
  by_cases hr : r = -1
  · rw [if_pos hr, hr]
    rfl
  · rw [if_neg hr]
    unfold rmOf
    rw [if_neg, num7_itoa (by omega) (by omega)]
    intro e
    have hm : (45 : UInt8) ∈ Lib.itoa r := by rw [e]; simp
    exact itoa_not (by omega) (by decide) hm
theorem rm_not {r : Int} (h : -1 ≤ r) {c : UInt8} (hc : c.toNat < 45) : c ∉ rmB r := by
  unfold rmB
  split
  · intro hm
    rw [List.mem_singleton] at hm
    subst hm
    exact absurd hc (by decide)
  · exact itoa_not (by omega) (by omega)
theorem ev4_some {a b c d : Option Int} {e : W4} (h : ev4 a b c d = some e) : a = some e.1 ∧ b = some e.2.1 ∧ c = some e.2.2.1 ∧ d = some e.2.2.2 := by
  cases a with
  | none => cases h
  | some a =>
    cases b with
    | none => cases h
    | some b =>
      cases c with
      | none => cases h
      | some c =>
        cases d with
        | none => cases h
        | some d => obtain rfl := Option.some.inj h; exact ⟨rfl, rfl, rfl, rfl⟩
/-- What is read is printed as it was. -/
theorem ev_back1 {u : List UInt8} {e : W4} (h : evOf1 u = some e) : evL e = u := by
  unfold evOf1 at h
  split at h
  · rename_i a b c d hc
    obtain ⟨h1, h2, h3, h4⟩ := ev4_some h
    have hj := cut_join 32 u [] _ _ hc
    rw [List.nil_append] at hj
    unfold evL tail
    rw [(numB7_some h1).2.2, rm_back h2]
    simp only [List.flatMap_cons, List.flatMap_nil, (numB7_some h3).2.2, (numB7_some h4).2.2, List.append_nil]
    rw [hj]
    simp
  · cases h
theorem evs_back : ∀ {ps : List (List UInt8)} {l : List W4}, evsOf ps = some l → l.map evL = ps
  | [], l, h => by obtain rfl := Option.some.inj h; rfl
  | u :: ps, l, h => by
    unfold evsOf at h
    cases h1 : evOf1 u with
    | none => rw [h1] at h; cases h
    | some e =>
      cases h2 : evsOf ps with
      | none => rw [h1, h2] at h; cases h
      | some l' =>
        rw [h1, h2] at h
        obtain rfl := Option.some.inj h
        rw [List.map_cons, ev_back1 h1, evs_back h2]
theorem ev_back {t : List UInt8} (h : (evP t).2 = 0) : evchk (evP t).1 = 0 ∧ evB (evP t).1 = t := by
  unfold evP at h ⊢
  split at h
  · rename_i hq
    rw [if_pos hq]
    obtain ⟨ps, hps⟩ := List.getLast?_eq_some_iff.1 hq
    rw [hps, List.dropLast_concat] at h ⊢
    cases ho : evsOf ps with
    | none => rw [ho] at h; cases h
    | some l =>
      rw [ho] at h
      by_cases hk : evchk l = 0
      · have e : evR (some l) = (l, 0) := by unfold evR; simp only; rw [if_pos hk]
        rw [e]
        refine ⟨hk, ?_⟩
        unfold evB
        rw [evs_back ho]
        exact cut_end hps
      · have e : evR (some l) = ([], evchk l) := by unfold evR; simp only; rw [if_neg hk]
        rw [e] at h
        exact absurd h hk
  · cases h
/-- What is printed is read as it was. -/
theorem ev_line {e : W4} (h : evBad e = 0) : evOf1 (evL e) = some e ∧ (10 : UInt8) ∉ evL e := by
  obtain ⟨h1, h2, h3, h4, _⟩ := evBad_zero h
  have hz : ∀ z ∈ [e.2.2.1, e.2.2.2], 0 ≤ z := fun z hz => by
    simp only [List.mem_cons, List.not_mem_nil, or_false] at hz
    rcases hz with rfl | rfl
    · exact h3.1
    · exact h4.1
  constructor
  · unfold evOf1 evL
    have hc : cutB 32 (Lib.itoa e.1 ++ 32 :: (rmB e.2.1 ++ tail [e.2.2.1, e.2.2.2])) = [Lib.itoa e.1, rmB e.2.1, Lib.itoa e.2.2.1, Lib.itoa e.2.2.2] := by
      unfold cutB
      rw [cutGo_at 32 _ [] _ (itoa_not h1.1 (by decide)), List.nil_append, cut_body (rm_not h2.1 (by decide)) _ hz]
      rfl
    rw [hc]
    simp only
    rw [num7_itoa h1.1 (by omega), rm_itoa h2, num7_itoa h3.1 (by omega), num7_itoa h4.1 (by omega)]
    rfl
  · unfold evL
    rw [List.mem_append, List.mem_cons]
    rintro (hm | hm | hm)
    · exact itoa_not h1.1 (by decide) hm
    · exact absurd hm (by decide)
    · exact not_word (rm_not h2.1 (by decide)) hz hm
theorem evs_map : ∀ {l : List W4}, (∀ e ∈ l, evBad e = 0) → evsOf (l.map evL) = some l
  | [], _ => rfl
  | e :: l, h => by
    rw [List.map_cons, evsOf, (ev_line (h e (List.mem_cons_self ..))).1, evs_map (fun x hx => h x (List.mem_cons_of_mem _ hx))]
theorem ev_read {l : List W4} (h : evchk l = 0) : evP (evB l) = (l, 0) := by
  obtain ⟨_, h2⟩ := evchk_zero.1 h
  unfold evB
  rw [evP_shut (cut_endL (l.map evL) (fun u hu => by
    obtain ⟨e, he, rfl⟩ := List.mem_map.1 hu
    exact (ev_line (h2 e he)).2)), evs_map h2]
  unfold evR
  simp only
  rw [if_pos h]
theorem evsOf_snoc {ps : List (List UInt8)} {l : List W4} {u : List UInt8} {e : W4} (h : evsOf ps = some l) (hu : evOf1 u = some e) : evsOf (ps ++ [u]) = some (l ++ [e]) := by
  induction ps generalizing l with
  | nil => obtain rfl := Option.some.inj h; simp [evsOf, hu]
  | cons x ps ih =>
    unfold evsOf at h
    cases h1 : evOf1 x with
    | none => rw [h1] at h; cases h
    | some e1 =>
      cases h2 : evsOf ps with
      | none => rw [h1, h2] at h; cases h
      | some l' =>
        rw [h1, h2] at h
        obtain rfl := Option.some.inj h
        rw [List.cons_append, evsOf, h1, ih h2]
        rfl
theorem evsOf_bad {ps qs : List (List UInt8)} {u : List UInt8} (hu : evOf1 u = none) : evsOf (ps ++ u :: qs) = none := by
  induction ps with
  | nil => rw [List.nil_append, evsOf, hu]
  | cons x ps ih =>
    rw [List.cons_append, evsOf, ih]
    cases evOf1 x <;> rfl
end Go.Proofs.YtfconbblnmbnpahGreatDoor
namespace Go.Proofs.YtfconbblnmbnpahGreatDoor

/-- A line, its end with it, as an event. -/
def evRd (p : List UInt8) : Option W4 := if p.getLast? = some 10 then evOf1 p.dropLast else none
theorem evRd_yes (u : List UInt8) : evRd (u ++ [10]) = evOf1 u := by
  unfold evRd
  rw [List.getLast?_concat, if_pos rfl, List.dropLast_concat]
theorem evRd_no {p : List UInt8} (h : ∀ u, p ≠ u ++ [10]) : evRd p = none := by
  unfold evRd
  rw [if_neg]
  intro e
  obtain ⟨u, hu⟩ := List.getLast?_eq_some_iff.1 e
  exact h u hu
def evsRd : List (List UInt8) → Option (List W4)
  | [] => some []
  | p :: ps => match evRd p with
    | none => none
    | some n => (evsRd ps).map (n :: ·)
theorem evsRd_snoc (ps : List (List UInt8)) (ns : List W4) (p : List UInt8) (n : W4) (h : evsRd ps = some ns) (hn : evRd p = some n) : evsRd (ps ++ [p]) = some (ns ++ [n]) := by
  induction ps generalizing ns with
  | nil => simp only [evsRd, Option.some.injEq] at h; subst h; simp [evsRd, hn]
  | cons q qs ih =>
    simp only [evsRd] at h
    cases hq : evRd q with
    | none => rw [hq] at h; cases h
    | some m =>
      rw [hq] at h
      cases hqs : evsRd qs with
      | none => rw [hqs] at h; cases h
      | some ms =>
        rw [hqs] at h
        simp only [Option.map_some, Option.some.injEq] at h
        subst h
        simp [evsRd, hq, ih ms hqs]
theorem evsRd_bad {ps qs : List (List UInt8)} {p : List UInt8} (hn : evRd p = none) : evsRd (ps ++ p :: qs) = none := by
  induction ps with
  | nil => simp [evsRd, hn]
  | cons q rs ih =>
    simp only [List.cons_append, evsRd]
    cases evRd q with
    | none => rfl
    | some m => simp [ih]
theorem evsRd_of : ∀ ps : List (List UInt8), evsRd (ps.map (· ++ [10])) = evsOf ps
  | [] => rfl
  | u :: ps => by
    rw [List.map_cons, evsRd, evsOf, evRd_yes, evsRd_of ps]
    cases evOf1 u <;> cases evsOf ps <;> rfl
/-- What a text is as events, by its lines. -/
theorem evP_byline (t : List UInt8) : evP t = evR (evsRd (linesB t)) := by
  obtain ⟨ps, q, h1, h2, h3⟩ := cut_lines t [] (by simp)
  have hl : linesB t = ps.map (· ++ [10]) ++ (if q = [] then [] else [q]) := h3
  by_cases hq : q = []
  · rw [if_pos hq, List.append_nil] at hl
    subst hq
    rw [evP_shut h1, hl, evsRd_of]
  · rw [if_neg hq] at hl
    rw [evP_open h1 hq, hl, evsRd_bad (evRd_no (fun u e => h2 (by rw [e]; simp)))]
    rfl
theorem evchk_take (l : List W4) : evchk (l.take 2001) = evchk l := by
  by_cases h : l.length ≤ 2001
  · rw [List.take_of_length_le h]
  · have h1 : 2000 < (l.take 2001).length := by rw [List.length_take]; omega
    unfold evchk
    rw [if_pos h1, if_pos (show 2000 < l.length by omega)]
theorem ev_take_ok {l : List W4} (h : evchk l = 0) : l.take 2001 = l := List.take_of_length_le (by have := (evchk_zero.1 h).1; omega)
theorem ev_take_lt {os : List W4} {o : W4} (h : os.length ≤ 2000) : (os ++ [o]).take 2001 = os.take 2001 ++ [o] := by
  rw [List.take_of_length_le (by simp; omega), List.take_of_length_le (by omega)]
theorem ev_take_ge {os : List W4} {o : W4} (h : 2000 < os.length) : (os ++ [o]).take 2001 = os.take 2001 := by
  rw [List.take_append_of_le_length (by omega)]
theorem evR_ok {l : List W4} (h : evchk l = 0) : evR (some l) = (l, 0) := by unfold evR; simp only; rw [if_pos h]
theorem evR_err {l : List W4} (h : evchk l ≠ 0) : evR (some l) = ([], evchk l) := by unfold evR; simp only; rw [if_neg h]
theorem evOf1_not4 {u : List UInt8} (h : (cutB 32 u).length ≠ 4) : evOf1 u = none := by
  unfold evOf1
  split
  · rename_i a b c d e
    rw [e] at h
    exact absurd rfl h
  · rfl
theorem evOf1_of {u a b c d : List UInt8} (h : cutB 32 u = [a, b, c, d]) : evOf1 u = ev4 (numB7 a) (rmOf b) (numB7 c) (numB7 d) := by
  unfold evOf1
  rw [h]
theorem ev4_n1 (b c d : Option Int) : ev4 none b c d = none := by cases b <;> cases c <;> cases d <;> rfl
theorem ev4_n2 (a : Int) (c d : Option Int) : ev4 (some a) none c d = none := by cases c <;> cases d <;> rfl
theorem ev4_n3 (a b : Int) (d : Option Int) : ev4 (some a) (some b) none d = none := by cases d <;> rfl
theorem ev4_n4 (a b c : Int) : ev4 (some a) (some b) (some c) none = none := rfl
end Go.Proofs.YtfconbblnmbnpahGreatDoor
namespace Go.Proofs.YtfconbblnmbnpahGreatDoor
open Go.RowKit

def evTx (l : List W4) : List UInt8 := if evchk l = 0 then evB l else []
def TrcPrint (G : World → Prop) : Prop := ∀ (l : List W4) (v : Value) (W : World), G W → Wrs W v l → Calls Tryz.prog 15 #[v] W fun e w' => e = .returned (.tuple #[.string ⟨(evTx l).toArray⟩, wErr (evchk l)]) ∧ Below W.heap.size W w'
def TrcParse (G : World → Prop) : Prop := ∀ (t : ByteArray) (W : World), G W → t.size ≤ 140737488355328 → Calls Tryz.prog 20 #[.string t] W fun e w' => ∃ u, e = .returned (.tuple #[u, wErr (evP t.data.toList).2]) ∧ Wrs w' u (evP t.data.toList).1 ∧ Below W.heap.size W w'
theorem tail_two {c d : Int} (h1 : 0 ≤ c ∧ c ≤ 19) (h2 : 0 ≤ d ∧ d ≤ 5) : (tail [c, d]).length ≤ 44 := by
  have := tail_le [c, d] (fun z hz => by
    simp only [List.mem_cons, List.not_mem_nil, or_false] at hz
    rcases hz with rfl | rfl <;> omega)
  simpa using this
theorem evL_len {e : W4} (h : evBad e = 0) : (evL e).length ≤ 100 := by
  obtain ⟨h1, h2, h3, h4, _⟩ := evBad_zero h
  have a1 := Lib.itoa_length_le e.1 (by omega) (by omega)
  have a2 : (rmB e.2.1).length ≤ 21 := by
    unfold rmB
    split
    · decide
    · exact Lib.itoa_length_le e.2.1 (by omega) (by omega)
  have a3 := tail_two h3 h4
  unfold evL
  simp only [List.length_append, List.length_cons]
  omega
theorem endL_len : ∀ {ls : List (List UInt8)}, (∀ u ∈ ls, u.length ≤ 100) → (endL ls).length ≤ 101 * ls.length
  | [], _ => Nat.le_refl _
  | u :: ls, h => by
    have ih := endL_len (ls := ls) (fun x hx => h x (List.mem_cons_of_mem _ hx))
    have h0 := h u (List.mem_cons_self ..)
    have e : endL (u :: ls) = (u ++ [10]) ++ endL ls := by simp [endL]
    rw [e]
    simp only [List.length_append, List.length_cons, List.length_nil]
    omega
theorem evB_len {l : List W4} (h : evchk l = 0) : (evB l).length ≤ 202000 := by
  obtain ⟨h1, h2⟩ := evchk_zero.1 h
  unfold evB
  have := endL_len (ls := l.map evL) (fun u hu => by
    obtain ⟨e, he, rfl⟩ := List.mem_map.1 hu
    exact evL_len (h2 e he))
  rw [List.length_map] at this
  omega
end Go.Proofs.YtfconbblnmbnpahGreatDoor
namespace Go.Proofs.YtfconbblnmbnpahGreatDoor
open Go.RowKit

set_option maxRecDepth 100000 in
set_option maxHeartbeats 2000000 in
theorem number7_long (s : ByteArray) (w : World) (h : 7 < s.size) :
    Calls Tryz.prog 89 #[.string s, .int .i64 7] w fun e w' => e = .returned (.tuple #[.int .i64 0, .bool false]) ∧ Below w.heap.size w w' := by
  go_enter Tryz.func89, Tryz.ntmps89
  go_wp2
  go_ret2
  exact ⟨rfl, Below.refl _ _⟩
set_option maxRecDepth 100000 in
set_option maxHeartbeats 2000000 in
theorem number7_bad (s : ByteArray) (w : World) (hl : s.size ≤ 7) (h : Lib.atoi s.data.toList = none) (he : ErrS w) :
    Calls Tryz.prog 89 #[.string s, .int .i64 7] w fun e w' => e = .returned (.tuple #[.int .i64 0, .bool false]) ∧ Below w.heap.size w w' := by
  have hat := atoi_no s (by omega) h w he
  clear h he
  go_enter Tryz.func89, Tryz.ntmps89
  go_wp2_with (go_at_call 127; refine hat.mono ?_; rintro e w1 ⟨t, p, rfl, b1⟩; clear hat)
  go_ret2
  exact ⟨rfl, b1⟩
set_option maxRecDepth 100000 in
set_option maxHeartbeats 2000000 in
theorem number7_neg (s : ByteArray) (n : Int) (w : World) (hl : s.size ≤ 7) (h : Lib.atoi s.data.toList = some n) (hn : n < 0) :
    Calls Tryz.prog 89 #[.string s, .int .i64 7] w fun e w' => e = .returned (.tuple #[.int .i64 0, .bool false]) ∧ Below w.heap.size w w' := by
  have hat := atoi_yes s n (by omega) h w
  clear h
  go_enter Tryz.func89, Tryz.ntmps89
  go_wp2_with (go_at_call 127; refine hat.mono ?_; rintro e w1 ⟨rfl, b1⟩; clear hat)
  go_ret2
  exact ⟨rfl, b1⟩
set_option maxRecDepth 100000 in
set_option maxHeartbeats 2000000 in
theorem number7_yes (s : ByteArray) (n : Int) (w : World) (hl : s.size ≤ 7) (h : Lib.atoi s.data.toList = some n) (hn : 0 ≤ n) (hp : Pow10 w) (hB : (Lib.itoa n == s.toList) = true) :
    Calls Tryz.prog 89 #[.string s, .int .i64 7] w fun e w' => e = .returned (.tuple #[.int .i64 n, .bool true]) ∧ Below w.heap.size w w' := by
  have hr := atoi_range (by simpa using (show s.size ≤ 18 by omega)) h
  have hat := atoi_yes s n (by omega) h w
  clear h
  go_enter Tryz.func89, Tryz.ntmps89
  go_wp2_with (first | (go_at_call 127; refine hat.mono ?_; rintro e w1 ⟨rfl, b1⟩; clear hat) | (go_at_call 83; refine (itoa_any n hr.1 hr.2 w1 (hp.all b1)).mono ?_; rintro e w2 ⟨rfl, b2⟩))
  go_ret2
  exact ⟨rfl, b1.trans (b2.mono b1.size)⟩
set_option maxRecDepth 100000 in
set_option maxHeartbeats 2000000 in
theorem number7_other (s : ByteArray) (n : Int) (w : World) (hl : s.size ≤ 7) (h : Lib.atoi s.data.toList = some n) (hn : 0 ≤ n) (hp : Pow10 w) (hB : (Lib.itoa n == s.toList) = false) :
    Calls Tryz.prog 89 #[.string s, .int .i64 7] w fun e w' => e = .returned (.tuple #[.int .i64 0, .bool false]) ∧ Below w.heap.size w w' := by
  have hr := atoi_range (by simpa using (show s.size ≤ 18 by omega)) h
  have hat := atoi_yes s n (by omega) h w
  clear h
  go_enter Tryz.func89, Tryz.ntmps89
  go_wp2_with (first | (go_at_call 127; refine hat.mono ?_; rintro e w1 ⟨rfl, b1⟩; clear hat) | (go_at_call 83; refine (itoa_any n hr.1 hr.2 w1 (hp.all b1)).mono ?_; rintro e w2 ⟨rfl, b2⟩))
  go_ret2
  exact ⟨rfl, b1.trans (b2.mono b1.size)⟩

theorem number7_any (s : ByteArray) (w : World) (ht : Tabs2 w) :
    Calls Tryz.prog 89 #[.string s, .int .i64 7] w fun e w' => e = .returned (.tuple #[.int .i64 ((numB7 s.data.toList).getD 0), .bool (numB7 s.data.toList).isSome]) ∧ Below w.heap.size w w' := by
  have hsl : s.data.toList.length = s.size := by simp
  have hst : s.toList = s.data.toList := Lib.toList_data s
  by_cases h1 : 7 < s.size
  · rw [numB7_long (by omega)]; exact number7_long s w h1
  · cases h2 : Lib.atoi s.data.toList with
    | none => rw [numB7_bad h2]; exact number7_bad s w (by omega) h2 ht.err
    | some n =>
      by_cases h3 : n < 0
      · rw [numB7_neg h2 h3]; exact number7_neg s n w (by omega) h2 h3
      · by_cases h4 : Lib.itoa n = s.data.toList
        · rw [numB7_yes (by omega) h2 (by omega) h4]; exact number7_yes s n w (by omega) h2 (by omega) ht.tabs.pow (by rw [hst]; simpa using h4)
        · rw [numB7_other h2 h4]; exact number7_other s n w (by omega) h2 (by omega) ht.tabs.pow (by rw [hst]; simpa using h4)
end Go.Proofs.YtfconbblnmbnpahGreatDoor
namespace Go.Proofs.YtfconbblnmbnpahGreatDoor
open Go.RowKit

theorem ints_pair (W : World) (k : Nat) (hk : k = W.heap.size) (a b : Int) : Ints (W.alloc (.cells #[.int .i64 a, .int .i64 b] 3)) (.slice (some ⟨k, 0, none⟩) 2 2) [a, b] := by
  subst hk
  refine Or.inr ⟨_, 2, rfl, by simp, fun i z hi => ?_⟩
  match i, hi with
  | 0, hi => simp at hi; subst hi; simp [Addr.add]
  | 1, hi => simp at hi; subst hi; simp [Addr.add]
  | i + 2, hi => simp at hi
theorem itoa_short {z : Int} (h0 : 0 ≤ z) (h1 : z ≤ 10000000) : (Lib.itoa z).length ≤ 21 := Lib.itoa_length_le z (by omega) (by omega)
set_option maxRecDepth 100000 in
set_option maxHeartbeats 4000000 in
theorem revtext_any (e : W4) (w : World) (h : evBad e = 0) : Calls Tryz.prog 14 #[.agg #[.int .i64 e.1, .int .i64 e.2.1, .int .i64 e.2.2.1, .int .i64 e.2.2.2]] w fun ev w' => ev = .returned (.string ⟨(evL e).toArray⟩) ∧ Below w.heap.size w w' := by
  obtain ⟨a, b, c, d⟩ := e
  obtain ⟨⟨h1, h1'⟩, ⟨h2, h2'⟩, ⟨h3, h3'⟩, ⟨h4, h4'⟩, h5⟩ := evBad_zero h
  clear h5
  simp only at h1 h1' h2 h2' h3 h3' h4 h4'
  have hA : Below w.heap.size w (w.alloc (.cells #[.int .i64 a, .int .i64 b, .int .i64 c, .int .i64 d] 32)) := (Below.refl _ _).alloc (Nat.le_refl _) _
  have hpair := ints_pair (w.alloc (.cells #[.int .i64 a, .int .i64 b, .int .i64 c, .int .i64 d] 32)) (w.heap.size + 1) (by simp) c d
  have hda := fun W => digits_int a h1 (by omega) W
  have hla := itoa_short (z := a) h1 (by omega)
  have hE : evL (a, b, c, d) = (Lib.itoa a ++ ([32] ++ rmB b)) ++ tail [c, d] := by unfold evL; simp
  rw [hE]
  clear hE h
  obtain ⟨D, hD⟩ : ∃ D, D = Lib.itoa a := ⟨_, rfl⟩
  rw [← hD] at hda hla ⊢
  clear hD
  by_cases hb : b = -1
  · subst hb
    rw [show rmB (-1) = [45] from rfl]
    have hrow := fun W v (hv : Ints W v [c, d]) => row_any (D ++ ([32] ++ [45])) v [c, d] W hv (by simp; omega) (by simp; omega)
    obtain ⟨T, hT⟩ : ∃ T, T = (D ++ ([32] ++ [45])) ++ tail [c, d] := ⟨_, rfl⟩
    rw [← hT] at hrow ⊢
    rw [← ba_app3] at hrow
    clear hT
    go_enter Tryz.func14, Tryz.ntmps14
    go_wp2_with (first
      | (go_at_call 38; refine (hda _).mono ?_; rintro e w1 ⟨rfl, hw⟩; subst hw; clear hda)
      | (go_at_call 39; refine (hrow _ _ hpair).mono ?_; rintro e w2 ⟨rfl, b2⟩; clear hrow))
    go_ret
    exact ⟨rfl, (hA.alloc (by simp) _).trans (b2.mono (by simp; omega))⟩
  · have hb0 : 0 ≤ b := by omega
    rw [show rmB b = Lib.itoa b by unfold rmB; rw [if_neg hb]]
    have hdb := fun W => digits_int b hb0 (by omega) W
    have hlb := itoa_short (z := b) hb0 (by omega)
    obtain ⟨E, hE⟩ : ∃ E, E = Lib.itoa b := ⟨_, rfl⟩
    rw [← hE] at hdb hlb ⊢
    clear hE
    have hrow := fun W v (hv : Ints W v [c, d]) => row_any (D ++ ([32] ++ E)) v [c, d] W hv (by simp; omega) (by simp; omega)
    obtain ⟨T, hT⟩ : ∃ T, T = (D ++ ([32] ++ E)) ++ tail [c, d] := ⟨_, rfl⟩
    rw [← hT] at hrow ⊢
    rw [← ba_app3] at hrow
    clear hT
    have k0 : 0 ≤ b := hb0
    go_enter Tryz.func14, Tryz.ntmps14
    go_wp2_with (first
      | (go_at_call 38; refine (hdb _).mono ?_; rintro e w1 ⟨rfl, hw⟩; subst hw; clear hdb)
      | (go_at_call 38; refine (hda _).mono ?_; rintro e w1 ⟨rfl, hw⟩; subst hw; clear hda)
      | (go_at_call 39; refine (hrow _ _ hpair).mono ?_; rintro e w2 ⟨rfl, b2⟩; clear hrow))
    go_ret
    exact ⟨rfl, (hA.alloc (by simp) _).trans (b2.mono (by simp; omega))⟩
end Go.Proofs.YtfconbblnmbnpahGreatDoor
namespace Go.Proofs.YtfconbblnmbnpahGreatDoor
open Go.RowKit

def numV7 (l : List UInt8) : Value := .tuple #[.int .i64 ((numB7 l).getD 0), .bool (numB7 l).isSome]

set_option maxRecDepth 100000 in
set_option maxHeartbeats 2000000 in
theorem rnum7_empty (w : World) : Calls Tryz.prog 46 #[.string ⟨#[]⟩, .int .i64 7] w fun e w' => e = .returned (.tuple #[.int .i64 0, .bool false]) ∧ Below w.heap.size w w' := by
  go_enter Tryz.func46, Tryz.ntmps46
  go_wp2
  go_ret2
  exact ⟨rfl, Below.refl _ _⟩
theorem str_ne7 {s : ByteArray} (h : 0 < s.size) : (s.toList == ([] : List UInt8)) = false := by
  rw [Lib.toList_data s]
  cases hd : s.data.toList with
  | nil =>
    have : s.data.toList.length = s.size := by simp
    rw [hd] at this
    simp at this
    omega
  | cons x xs => rfl
set_option maxRecDepth 100000 in
set_option maxHeartbeats 2000000 in
theorem rnum7_long (s : ByteArray) (w : World) (h : 7 < s.size) : Calls Tryz.prog 46 #[.string s, .int .i64 7] w fun e w' => e = .returned (.tuple #[.int .i64 0, .bool false]) ∧ Below w.heap.size w w' := by
  have hne := str_ne7 (s := s) (by omega)
  have h' : (7 : Int) < (s.size : Int) := by omega
  go_enter Tryz.func46, Tryz.ntmps46
  go_wp2
  go_ret2
  exact ⟨rfl, Below.refl _ _⟩
set_option maxRecDepth 100000 in
set_option maxHeartbeats 2000000 in
theorem rnum7_zero (s : ByteArray) (w : World) (h0 : 1 < s.size) (h4 : s.size ≤ 7) (hz : ((s[0].toNat : Int) == 48) = true) : Calls Tryz.prog 46 #[.string s, .int .i64 7] w fun e w' => e = .returned (.tuple #[.int .i64 0, .bool false]) ∧ Below w.heap.size w w' := by
  have hne := str_ne7 (s := s) (by omega)
  have hb : decide ((7 : Int) < (s.size : Int)) = false := by simp; omega
  have hb1 : decide ((1 : Int) < (s.size : Int)) = true := by simp; omega
  go_enter Tryz.func46, Tryz.ntmps46
  go_wp2
  go_ret2
  exact ⟨rfl, Below.refl _ _⟩

set_option maxRecDepth 1000000 in
set_option maxHeartbeats 4000000 in
theorem rnum7_main (s : ByteArray) (w : World) (h0 : 0 < s.size) (h4 : s.size ≤ 7) (hz : ((s[0].toNat : Int) == 48) = false ∨ (s.size = 1 ∧ ((s[0].toNat : Int) == 48) = true)) : Calls Tryz.prog 46 #[.string s, .int .i64 7] w fun e w' => e = .returned (numV7 s.data.toList) ∧ Below w.heap.size w w' := by
  have hne := str_ne7 (s := s) (by omega)
  have hb : decide ((7 : Int) < (s.size : Int)) = false := by simp; omega
  have hsl : s.data.toList.length = s.size := by simp
  have HH : Hid (s.data.toList.head? = some 48 → s.data.toList.length = 1) := fun e => by
    rcases hz with hz | hz
    · exfalso
      have h1 : s.data.toList[0]? = some 48 := by rw [← List.head?_eq_getElem?]; exact e
      rw [List.getElem?_eq_getElem (by omega)] at h1
      have h2 : s[0] = 48 := Option.some.inj h1
      rw [h2] at hz
      simp at hz
    · omega
  rcases hz with hz | ⟨hz1, hz⟩
  · skip
    go_enter Tryz.func46, Tryz.ntmps46
    go_wp2
    clear hz
    go_loopw [6, 7] (fun n i wr => ∃ k : Nat, k ≤ s.size ∧ i = .int .i64 k ∧ n = .int .i64 (valD (s.data.toList.take k)) ∧ (∀ d ∈ s.data.toList.take k, isD d) ∧ wr = w) (fun _ i _ => s.size - (intOf i).toNat)
    case atStart => exact ⟨0, Nat.zero_le _, rfl, rfl, by simp, rfl⟩
    case round =>
      obtain ⟨k, hk, rfl, rfl, hall, rfl⟩ := hrel
      have hvl := valD_le7 (s.data.toList.take k) hall (by rw [List.length_take]; omega)
      have HA : Hid (∀ d ∈ s.data.toList.take k, isD d) := hall
      clear hall
      obtain ⟨V, hV⟩ : ∃ V, V = valD (s.data.toList.take k) := ⟨_, rfl⟩
      rw [← hV] at hvl ⊢
      have HV : Hid (V = valD (s.data.toList.take k)) := hV
      clear hV
      by_cases hkl : k < s.size
      · have hkl' : k < s.data.toList.length := by omega
        have hgd : s[k] = s.data.toList[k] := rfl
        have HT : Hid (s.data.toList.take (k + 1) = s.data.toList.take k ++ [s[k]'hkl]) := List.take_succ_eq_append_getElem hkl'
        have HM : Hid (s[k]'hkl ∈ s.data.toList) := List.getElem_mem hkl'
        clear hkl' hgd hsl
        by_cases hd1 : (s[k].toNat : Int) < 48
        · have HN : Hid (numB7 s.data.toList = none) := num7_nodigit HM.out (Or.inl (by omega))
          go_wp2
          go_ret2
          exact ⟨by unfold numV7; rw [HN.out]; rfl, Below.refl _ _⟩
        · by_cases hd2 : (57 : Int) < (s[k].toNat : Int)
          · have HN : Hid (numB7 s.data.toList = none) := num7_nodigit HM.out (Or.inr (by omega))
            go_wp2
            go_ret2
            exact ⟨by unfold numV7; rw [HN.out]; rfl, Below.refl _ _⟩
          · have HD : Hid (isD s[k]) := ⟨by omega, by omega⟩
            go_wp2
            go_roundw
            case rel =>
              refine ⟨k + 1, by omega, by go_num, ?_, ?_, by first | rfl | trivial⟩
              · rw [HT.out, valD_snoc, ← HV.out]
              · intro d hd
                rw [HT.out, List.mem_append] at hd
                rcases hd with hd | hd
                · exact HA.out d hd
                · rw [List.mem_singleton] at hd
                  rw [hd]
                  exact HD.out
            case measure => simp [intOf]; omega
      · have hke : k = s.size := by omega
        subst hke
        have HN : Hid (numB7 s.data.toList = some V) := by
          have e : s.data.toList.take s.size = s.data.toList := List.take_of_length_le (by omega)
          have h1 := HA.out
          have h2 := HV.out
          rw [e] at h1 h2
          show _ = _
          rw [h2]
          exact num7_good h1 (fun e0 => by rw [e0] at hsl; simp at hsl; omega) (by omega) HH.out
        clear hsl
        go_wp2
        go_ret2
        exact ⟨by unfold numV7; rw [HN.out]; rfl, Below.refl _ _⟩
  · have hb1 : decide ((1 : Int) < (s.size : Int)) = false := by simp; omega
    clear hz1
    go_enter Tryz.func46, Tryz.ntmps46
    go_wp2
    clear hz hb1
    go_loopw [6, 7] (fun n i wr => ∃ k : Nat, k ≤ s.size ∧ i = .int .i64 k ∧ n = .int .i64 (valD (s.data.toList.take k)) ∧ (∀ d ∈ s.data.toList.take k, isD d) ∧ wr = w) (fun _ i _ => s.size - (intOf i).toNat)
    case atStart => exact ⟨0, Nat.zero_le _, rfl, rfl, by simp, rfl⟩
    case round =>
      obtain ⟨k, hk, rfl, rfl, hall, rfl⟩ := hrel
      have hvl := valD_le7 (s.data.toList.take k) hall (by rw [List.length_take]; omega)
      have HA : Hid (∀ d ∈ s.data.toList.take k, isD d) := hall
      clear hall
      obtain ⟨V, hV⟩ : ∃ V, V = valD (s.data.toList.take k) := ⟨_, rfl⟩
      rw [← hV] at hvl ⊢
      have HV : Hid (V = valD (s.data.toList.take k)) := hV
      clear hV
      by_cases hkl : k < s.size
      · have hkl' : k < s.data.toList.length := by omega
        have hgd : s[k] = s.data.toList[k] := rfl
        have HT : Hid (s.data.toList.take (k + 1) = s.data.toList.take k ++ [s[k]'hkl]) := List.take_succ_eq_append_getElem hkl'
        have HM : Hid (s[k]'hkl ∈ s.data.toList) := List.getElem_mem hkl'
        clear hkl' hgd hsl
        by_cases hd1 : (s[k].toNat : Int) < 48
        · have HN : Hid (numB7 s.data.toList = none) := num7_nodigit HM.out (Or.inl (by omega))
          go_wp2
          go_ret2
          exact ⟨by unfold numV7; rw [HN.out]; rfl, Below.refl _ _⟩
        · by_cases hd2 : (57 : Int) < (s[k].toNat : Int)
          · have HN : Hid (numB7 s.data.toList = none) := num7_nodigit HM.out (Or.inr (by omega))
            go_wp2
            go_ret2
            exact ⟨by unfold numV7; rw [HN.out]; rfl, Below.refl _ _⟩
          · have HD : Hid (isD s[k]) := ⟨by omega, by omega⟩
            go_wp2
            go_roundw
            case rel =>
              refine ⟨k + 1, by omega, by go_num, ?_, ?_, by first | rfl | trivial⟩
              · rw [HT.out, valD_snoc, ← HV.out]
              · intro d hd
                rw [HT.out, List.mem_append] at hd
                rcases hd with hd | hd
                · exact HA.out d hd
                · rw [List.mem_singleton] at hd
                  rw [hd]
                  exact HD.out
            case measure => simp [intOf]; omega
      · have hke : k = s.size := by omega
        subst hke
        have HN : Hid (numB7 s.data.toList = some V) := by
          have e : s.data.toList.take s.size = s.data.toList := List.take_of_length_le (by omega)
          have h1 := HA.out
          have h2 := HV.out
          rw [e] at h1 h2
          show _ = _
          rw [h2]
          exact num7_good h1 (fun e0 => by rw [e0] at hsl; simp at hsl; omega) (by omega) HH.out
        clear hsl
        go_wp2
        go_ret2
        exact ⟨by unfold numV7; rw [HN.out]; rfl, Below.refl _ _⟩
theorem refnum7_any (s : ByteArray) (w : World) : Calls Tryz.prog 46 #[.string s, .int .i64 7] w fun e w' => e = .returned (numV7 s.data.toList) ∧ Below w.heap.size w w' := by
  have hsl : s.data.toList.length = s.size := by simp
  by_cases h0 : s.size = 0
  · have hd : s.data.toList = [] := List.eq_nil_of_length_eq_zero (by omega)
    have hs : s = ⟨#[]⟩ := by apply ByteArray.ext; apply Array.toList_inj.1; exact hd
    rw [hd, hs]
    unfold numV7
    rw [num7_empty]
    exact rnum7_empty w
  · by_cases h4 : 7 < s.size
    · unfold numV7
      rw [numB7_long (by omega)]
      exact rnum7_long s w h4
    · by_cases hz : ((s[0]'(by omega)).toNat : Int) = 48
      · by_cases h1 : s.size = 1
        · exact rnum7_main s w (by omega) (by omega) (Or.inr ⟨h1, by simpa using hz⟩)
        · have hh : s.data.toList.head? = some 48 := by
            rw [List.head?_eq_getElem?, List.getElem?_eq_getElem (by omega)]
            refine congrArg some ?_
            exact UInt8.toNat_inj.1 (by have : s.data.toList[0] = s[0]'(by omega) := rfl; rw [this]; simp; omega)
          unfold numV7
          rw [num7_zero hh (by omega)]
          exact rnum7_zero s w (by omega) (by omega) (by simpa using hz)
      · exact rnum7_main s w (by omega) (by omega) (Or.inl (by simpa using hz))
end Go.Proofs.YtfconbblnmbnpahGreatDoor
namespace Go.Proofs.YtfconbblnmbnpahGreatDoor
open Go.RowKit

/-- A kernel behind t ticks; the row has what was told of them. -/
structure TrK {G : World → Prop} (C : KerC G) (w0 wr : World) (p : PD) (vc vs vw : Value) (kb B t : Nat) (v : Value) (F : List Nat) : Prop where
  K : C.K w0 wr p vc vs vw (kT p t) kb F
  own : wr.ownsRow B 32 4 v t (wrCells (runL p t))
  ap : ∀ g, v.ownBlock = some g → g ∉ F
  B1 : w0.heap.size ≤ B
  B2 : B ≤ wr.heap.size
/-- A tick: what is told, the kernel then; and the row as it was. -/
theorem TrK.tick {G : World → Prop} {C : KerC G} {w0 wr : World} {p : PD} {vc vs vw : Value} {kb B t : Nat} {v : Value} {F : List Nat} (h : TrK C w0 wr p vc vs vw kb B t v F) (hG : G w0) (hp : plchk p = 0) (ht : t < 1000000) :
    Calls Tryz.prog 26 #[.pointer (some ⟨kb, 0, none⟩)] wr fun e w' => e = .returned (.agg #[.int .i64 (evK p (kT p t)).1, .int .i64 (evK p (kT p t)).2.1, .int .i64 (evK p (kT p t)).2.2.1, .int .i64 (evK p (kT p t)).2.2.2]) ∧ ∃ F', C.K w0 w' p vc vs vw (kT p (t + 1)) kb F' ∧ w'.ownsRow B 32 4 v t (wrCells (runL p t)) ∧ (∀ g, v.ownBlock = some g → g ∉ F') ∧ B ≤ w'.heap.size := by
  refine (C.tick hG h.K hp (kT_ok hp t) (by rw [kT_time]; omega)).mono ?_
  rintro e w' ⟨rfl, F', hK', tk', hF'⟩
  refine ⟨rfl, F', hK', own_block h.own (fun g hg => tk'.block g (h.own.lt g hg).2 (h.ap g hg)), fun g hg hm => ?_, Nat.le_trans h.B2 tk'.size⟩
  rcases hF' g hm with h1 | h1
  · exact h.ap g hg h1
  · have := (h.own.lt g hg).2
    omega
/-- The row has one more. -/
theorem trk_more {G : World → Prop} {C : KerC G} {w0 w3 w5 w8 : World} {p : PD} {vc vs vw : Value} {kb B t : Nat} {v v1 : Value} {F : List Nat} (hK : C.K w0 w3 p vc vs vw (kT p (t + 1)) kb F) (own : w3.ownsRow B 32 4 v t (wrCells (runL p t))) (ap : ∀ g, v.ownBlock = some g → g ∉ F) (hB1 : w0.heap.size ≤ B) (hB2 : B ≤ w3.heap.size) (hb5 : Below w3.heap.size w3 w5) (hg : w5.grownBy w8 v.ownBlock)
    (own8 : w8.ownsRow B 32 4 v1 (t + 1) (wrCells (runL p t) ++ [.int .i64 (evK p (kT p t)).1, .int .i64 (evK p (kT p t)).2.1, .int .i64 (evK p (kT p t)).2.2.1, .int .i64 (evK p (kT p t)).2.2.2])) (hnw : ∀ k, v1.ownBlock = some k → v.ownBlock = some k ∨ w5.heap.size ≤ k) : TrK C w0 w8 p vc vs vw kb B (t + 1) v1 F := by
  have tk : KTouch v.ownBlock.toList w3 w8 := ⟨hg.os.trans hb5.os, hg.tape.trans hb5.tape, hg.output.trans hb5.output, Nat.le_trans hb5.size hg.size, fun k hk hm => by
    have := hb5.size
    exact (hg.block k (by omega) (fun e => hm (by rw [← e]; simp))).trans (hb5.block k hk)⟩
  have hs5 := hb5.size
  have hm1 : ∀ m ∈ v.ownBlock.toList, v.ownBlock = some m := fun m hm => by simpa using hm
  refine ⟨C.frame hK tk (fun m hm => ⟨ap m (hm1 m hm), Nat.le_trans hB1 (own.lt m (hm1 m hm)).1⟩), ?_, fun g hg2 hm => ?_, hB1, Nat.le_trans hB2 tk.size⟩
  · rw [runL_succ, wrCells_snoc]
    exact own8
  · rcases hnw g hg2 with h1 | h1
    · exact ap g h1 hm
    · have := (C.ge hK g hm).2
      omega
set_option maxRecDepth 100000 in
set_option maxHeartbeats 8000000 in
theorem trun_wrong {G : World → Prop} (C : KerC G) (p : PD) (vc vs vw : Value) (n : Int) (W : World) (hG : G W) (hP : Pln W vc vs vw p) (hp : plchk p ≠ 0) :
    Calls Tryz.prog 10 #[plV vc p.ticks vs vw, .int .i64 n] W fun e w' => e = .returned (.tuple #[.slice none 0 0, wErr (plchk p)]) ∧ Below W.heap.size W w' := by
  obtain ⟨ca, cc, rfl⟩ := hP.code.form
  obtain ⟨sa, sc, rfl⟩ := hP.spans.form
  obtain ⟨wa, wc', rfl⟩ := hP.wires.form
  have hx0 := Bx.first W (.slice ca p.code.length cc) p.ticks (.slice sa p.spans.length sc) (.slice wa p.wires.length wc')
  have q1 := C.no p _ _ _ _ (C.all _ _ hG hx0.below) (hP.all hx0.below) hp
  rw [wErr_not hp] at q1 ⊢
  unfold plV at q1 ⊢
  have k0 := hx0.c0
  have k1 := hx0.c1
  have k2 := hx0.c2
  have k3 := hx0.c3
  clear hP hG
  generalize plchk p = z at q1 hp ⊢
  go_enter Tryz.func10, Tryz.ntmps10
  go_wp2_with (go_at_call 25; refine q1.mono ?_; rintro e w1 ⟨x, rfl, b1⟩)
  go_ret2
  exact ⟨rfl, (hx0.step b1).below⟩
set_option maxRecDepth 100000 in
set_option maxHeartbeats 8000000 in
theorem trun_n {G : World → Prop} (C : KerC G) (p : PD) (vc vs vw : Value) (n : Int) (W : World) (hG : G W) (hP : Pln W vc vs vw p) (hp : plchk p = 0) (hn : n < 0 ∨ 2000 < n) :
    Calls Tryz.prog 10 #[plV vc p.ticks vs vw, .int .i64 n] W fun e w' => e = .returned (.tuple #[.slice none 0 0, wErr 1]) ∧ Below W.heap.size W w' := by
  obtain ⟨ca, cc, rfl⟩ := hP.code.form
  obtain ⟨sa, sc, rfl⟩ := hP.spans.form
  obtain ⟨wa, wc', rfl⟩ := hP.wires.form
  have hx0 := Bx.first W (.slice ca p.code.length cc) p.ticks (.slice sa p.spans.length sc) (.slice wa p.wires.length wc')
  have q1 : Calls Tryz.prog 25 #[.agg #[.slice ca p.code.length cc, .int .i64 p.ticks, .slice sa p.spans.length sc, .slice wa p.wires.length wc']] (W.alloc (.cells #[.slice ca p.code.length cc, .int .i64 p.ticks, .slice sa p.spans.length sc, .slice wa p.wires.length wc'] 26)) fun e w' => ∃ kb, e = .returned (.tuple #[.pointer (some ⟨kb, 0, none⟩), .nilIface]) ∧ Below W.heap.size W w' := by
    refine (C.new p _ _ _ _ (C.all _ _ hG hx0.below) (hP.all hx0.below) hp).mono ?_
    rintro e w' ⟨kb, F, rfl, hK⟩
    exact ⟨kb, rfl, hx0.below.trans ((C.since hK).mono (by simp))⟩
  unfold plV
  have k0 := hx0.c0
  have k1 := hx0.c1
  have k2 := hx0.c2
  have k3 := hx0.c3
  have hwi : wiB n 0 2000 = false := by
    unfold wiB
    rcases hn with h | h
    · rw [decide_eq_false (show ¬ 0 ≤ n by omega)]; rfl
    · rw [decide_eq_false (show ¬ n ≤ 2000 by omega)]; simp
  have qw := fun w => within_of hwi w
  clear hP hG hp hn hwi
  go_enter Tryz.func10, Tryz.ntmps10
  go_wp2_with (first | (go_at_call 25; refine q1.mono ?_; rintro e w1 ⟨kb, rfl, b1⟩) | (go_at_call 36; refine (qw _).mono ?_; rintro e w2 ⟨rfl, hw2⟩; obtain rfl := hw2.symm))
  go_ret2
  exact ⟨rfl, b1⟩
set_option maxRecDepth 100000 in
set_option maxHeartbeats 8000000 in
theorem trun_ok {G : World → Prop} (C : KerC G) (p : PD) (vc vs vw : Value) (n : Nat) (W : World) (hG : G W) (hP : Pln W vc vs vw p) (hp : plchk p = 0) (hn : n ≤ 2000) :
    Calls Tryz.prog 10 #[plV vc p.ticks vs vw, .int .i64 n] W fun e w' => ∃ v, e = .returned (.tuple #[v, .nilIface]) ∧ Wrs w' v (runL p n) ∧ Below W.heap.size W w' := by
  obtain ⟨jj, hj, hy0, hy1, hy2⟩ := info_parts infoEv
  obtain ⟨ca, cc, rfl⟩ := hP.code.form
  obtain ⟨sa, sc, rfl⟩ := hP.spans.form
  obtain ⟨wa, wc', rfl⟩ := hP.wires.form
  have hx0 := Bx.first W (.slice ca p.code.length cc) p.ticks (.slice sa p.spans.length sc) (.slice wa p.wires.length wc')
  have HG : Hid (G (W.alloc (.cells #[.slice ca p.code.length cc, .int .i64 p.ticks, .slice sa p.spans.length sc, .slice wa p.wires.length wc'] 26))) := C.all _ _ hG hx0.below
  have hA := hx0.below
  have HN : Hid (Calls Tryz.prog 25 #[.agg #[.slice ca p.code.length cc, .int .i64 p.ticks, .slice sa p.spans.length sc, .slice wa p.wires.length wc']] (W.alloc (.cells #[.slice ca p.code.length cc, .int .i64 p.ticks, .slice sa p.spans.length sc, .slice wa p.wires.length wc'] 26)) fun e w' => ∃ kb F, e = .returned (.tuple #[.pointer (some ⟨kb, 0, none⟩), .nilIface]) ∧ C.K (W.alloc (.cells #[.slice ca p.code.length cc, .int .i64 p.ticks, .slice sa p.spans.length sc, .slice wa p.wires.length wc'] 26)) w' p (.slice ca p.code.length cc) (.slice sa p.spans.length sc) (.slice wa p.wires.length wc') (newK p) kb F) := C.new p _ _ _ _ HG.out (hP.all hx0.below) hp
  unfold plV
  have k0 := hx0.c0
  have k1 := hx0.c1
  have k2 := hx0.c2
  have k3 := hx0.c3
  have hwi : wiB (n : Int) 0 2000 = true := by
    unfold wiB
    rw [decide_eq_true (show (0 : Int) ≤ n by omega), decide_eq_true (show (n : Int) ≤ 2000 by omega)]; rfl
  have qw := fun w => within_of hwi w
  have HP : Hid (plchk p = 0) := hp
  clear hP hG hwi hp
  go_enter Tryz.func10, Tryz.ntmps10
  go_wp2_with (first | (go_at_call 25; refine HN.out.mono ?_; rintro e w1 ⟨kb, F, rfl, hK⟩) | (go_at_call 36; refine (qw _).mono ?_; rintro e w2 ⟨rfl, hw2⟩; obtain rfl := hw2.symm))
  clear HN qw
  generalize W.alloc (.cells #[.slice ca p.code.length cc, .int .i64 p.ticks, .slice sa p.spans.length sc, .slice wa p.wires.length wc'] 26) = W0 at *
  go_loopw [8, 22] (fun v i wr => ∃ (t : Nat) (F : List Nat), t ≤ n ∧ i = .int .i64 t ∧ TrK C W0 wr p (.slice ca p.code.length cc) (.slice sa p.spans.length sc) (.slice wa p.wires.length wc') kb w1.heap.size t v F) (fun _ i _ => n - (intOf i).toNat)
  case atStart => exact ⟨0, F, Nat.zero_le _, rfl, hK, World.ownsRow_nil _ _ _ _, fun g hg => (by cases hg), (C.since hK).size, Nat.le_refl _⟩
  case round =>
    clear hK
    obtain ⟨t, F', htn, rfl, hst⟩ := hrel
    obtain ⟨vo, vk, hvf⟩ := own4_form hst.own
    subst hvf
    have hbw := C.since hst.K
    by_cases htl : t < n
    · have hti : (t : Int) < (n : Int) := by omega
      have q3 := hst.tick HG.out HP.out (show t < 1000000 by omega)
      have hB1 := hst.B1
      obtain ⟨⟨x0, x1, x2, x3⟩, hev⟩ : ∃ x, evK p (kT p t) = x := ⟨_, rfl⟩
      have HEV : Hid (evK p (kT p t) = (x0, x1, x2, x3)) := hev
      rw [hev] at q3
      clear hev hst hbw
      go_wp2_with (first
        | (go_at_call 26; refine q3.mono ?_; rintro e w3 ⟨rfl, F3, hK3, own3, ap3, sz3⟩; clear q3)
        | (at_builtin; refine wpList_append_at _ rfl _ _ 27 rfl w1.heap.size 32 jj _ 4 32 Tryz.underlying27 hj hy0 hy1 hy2 rfl (by decide) _ _ _ rfl (own3.alloc _) ⟨w3.heap.size, 0, none⟩ 1 1 [.int .i64 x0, .int .i64 x1, .int .i64 x2, .int .i64 x3] rfl rfl ?c1A ?c2A ?c3A ?c4A ?c5A ?_))
      case c1A => exact wr_new rfl _ _ _ _ _
      case c2A => exact four_one _ _ _ _
      case c3A => unfold maxLen; omega
      case c4A => omega
      case c5A => simp; omega
      intro v1 w8 own8 hg8 hnw8
      have hb4 : Below w3.heap.size w3 (w3.alloc (.cells #[.int .i64 x0, .int .i64 x1, .int .i64 x2, .int .i64 x3] 32)) := (Below.refl _ _).alloc (Nat.le_refl _) _
      have HN8 : Hid (TrK C W0 w8 p (.slice ca p.code.length cc) (.slice sa p.spans.length sc) (.slice wa p.wires.length wc') kb w1.heap.size (t + 1) v1 F3) := by
        refine trk_more hK3 own3 ap3 hB1 sz3 hb4 hg8 ?_ (fun k hk => by simpa using hnw8 k hk)
        rw [HEV.out]
        exact own8
      clear own8 hg8 hnw8 own3 hK3 ap3
      go_wp2
      go_roundw
      case rel => exact ⟨t + 1, F3, by omega, by go_num, HN8.out⟩
      case measure => simp [intOf]; omega
    · obtain rfl : t = n := by omega
      have hti : decide ((t : Int) < (t : Int)) = false := decide_eq_false (by omega)
      have HS : Hid (Wrs wr (.slice vo t vk) (runL p t)) := evs_of_own (by rw [runL_len]; exact hst.own)
      have HB' : Hid (Below W.heap.size W wr) := hA.trans (hbw.mono hA.size)
      clear hst
      go_wp2
      go_ret2
      exact ⟨_, rfl, HS.out, HB'.out⟩
/-- Run does what the laws of traces ask of it. -/
theorem trc_run {G : World → Prop} (C : KerC G) : TrcRun G := fun p vc vs vw n W hG hP => by
  by_cases hp : plchk p = 0
  · by_cases hn : n < 0 ∨ 2000 < n
    · have he : trE p n = 1 := by unfold trE; rw [if_pos hp, if_pos hn]
      unfold trV
      rw [he]
      refine (trun_n C p vc vs vw n W hG hP hp hn).mono ?_
      rintro e w' ⟨rfl, hb⟩
      exact ⟨_, rfl, Or.inl ⟨rfl, _, _, rfl⟩, hb⟩
    · obtain ⟨n, rfl⟩ : ∃ m : Nat, n = m := ⟨n.toNat, by omega⟩
      have he : trE p (n : Int) = 0 := by unfold trE; rw [if_pos hp, if_neg hn]
      unfold trV
      rw [he, if_pos rfl, Int.toNat_natCast]
      exact trun_ok C p vc vs vw n W hG hP hp (by omega)
  · have he : trE p n = plchk p := by unfold trE; rw [if_neg hp]
    unfold trV
    rw [he, if_neg hp]
    refine (trun_wrong C p vc vs vw n W hG hP hp).mono ?_
    rintro e w' ⟨rfl, hb⟩
    exact ⟨_, rfl, Or.inl ⟨rfl, _, _, rfl⟩, hb⟩
end Go.Proofs.YtfconbblnmbnpahGreatDoor
