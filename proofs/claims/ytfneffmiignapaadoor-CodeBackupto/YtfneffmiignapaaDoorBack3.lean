/-
  framelaw1.CodeBack: walks.
-/
import Derived.Test.YtfneffmiignapaaDoorBack1
namespace Go.Proofs.YtfneffmiignapaaDoor
open Go.RowKit

set_option maxRecDepth 1000000 in
set_option maxHeartbeats 16000000 in
theorem back_good_obad (v : Value) (l : List O3) (t : ByteArray) (o : O3) (w : World) (ht : Tabs2 w) (ho : Ops w v l) (htl : t.size ≤ 1099511627776) (hp : (parseB t.data.toList).2 = 0) (hc : (chk l).2 = 0) (hq : (chk [o]).2 ≠ 0) :
    Calls Tryd.prog 3 #[v, .string t, .agg #[.int .i64 o.1, .int .i64 o.2.1, .int .i64 o.2.2]] w fun e w' => e = .returned (.bool true) ∧ Below w.heap.size w w' := by
  have inv0 := Stay.first o ht ho
  have h1 := parse_fact
  obtain ⟨X, hX⟩ : ∃ X, parseB t.data.toList = (X, 0) := ⟨_, Prod.ext rfl hp⟩
  have hpp := print_parse hp
  rw [hX] at hpp
  have h2 := fun W h => parse_good t X W h htl hX
  have h2b := fun W v ht ho => print_text v X t W ht ho hpp.1 hpp.2
  clear hX hpp
  obtain ⟨ii, hi, hz0, hz1, hz2⟩ := info_parts infoOp
  have hz := chk_zero hc
  obtain ⟨lb, lo, lc, hv, hlt, _⟩ := back_form ho hz.1
  have hl0 : 0 < l.length := Nat.pos_of_ne_zero hz.1
  have hl20 : l.length ≤ 20 := hz.2.1
  have h3 := fun W ht ho => print_text v l ⟨(textB l).toArray⟩ W ht ho hc rfl
  have h4 := fun W h => parse_good ⟨(textB l).toArray⟩ l W h (by rw [ba_size]; have := text_le (l := l) (fun x hx => Or.inr (by have := ok3_small (by omega) (hz.2.2 x hx); omega)); omega) (parse_print hc)
  have h5 : ∀ W vx, Ops W vx l → Ops W v l → Calls Tryd.prog 9 #[vx, v] W fun e w' => e = .returned (.bool true) ∧ Below W.heap.size W w' := fun W vx hx hv => by
    have := same_any vx v l l W hx hv (by omega)
    rwa [show decide (l = l) = true by simp] at this
  have h6 := fun W v ht ho => check_fault v [o] W ht ho hq
  have h7 := fun W v ht ho => check_some v (l ++ [o]) W ht ho
  rw [hv] at inv0 h3 h5 ⊢
  clear hv ho ht hp hc hz hq hlt
  go_enter Tryd.func3, Tryd.ntmps3
  go_wp2_with (first | (go_at_call 7; refine (h1 _ inv0.tabs).mono ?_; rintro e W1 ⟨fb, fo, fc, rfl, f0, f1, f2, b1⟩; clear h1; have inv1 := inv0.all b1; clear inv0 b1) | (go_at_call 7; refine (h2 _ inv1.tabs).mono ?_; rintro e Wq ⟨xa, xn, xc, rfl, xo, b2⟩; clear h2; have invq := inv1.all b2; clear inv1 b2 f0 f1 f2) | (go_at_call 8; refine (h2b _ _ invq.tabs xo).mono ?_; rintro e W2 ⟨rfl, b2⟩; clear h2b; have inv2 := invq.all b2; clear invq b2 xo) | (go_at_call 8; refine (h3 _ inv2.tabs inv2.ops).mono ?_; rintro e W3 ⟨rfl, b3⟩; clear h3; have inv3 := inv2.all b3; clear inv2 b3) | (go_at_call 7; refine (h4 _ inv3.tabs).mono ?_; rintro e W4 ⟨za, zn, zc, rfl, zo, b4⟩; clear h4; have inv4 := inv3.all b4; clear inv3 b4) | (go_at_call 9; refine (h5 _ _ zo inv4.ops).mono ?_; rintro e W5 ⟨rfl, b5⟩; clear h5; have inv5 := inv4.all b5; clear inv4 b5 zo; have p0 := inv5.o0; have p1 := inv5.o1; have p2 := inv5.o2) | (go_at_call 10; refine (h6 _ _ (inv5.alloc _).tabs (ops_one' o W5)).mono ?_; rintro e W6 ⟨i6, p6, rfl, b6⟩; clear h6; have inv6 := (inv5.alloc _).all b6; have q0 := inv6.o0; have q1 := inv6.o1; have q2 := inv6.o2; have lt6 := inv6.lt; clear inv5 b6 p0 p1 p2) | (at_builtin; refine wpList_append_own _ rfl (.tmp 97) (.tmp 98) 22 rfl W6.heap.size 24 ii (.agg #[.int .i64 0, .int .i64 0, .int .i64 0]) 3 24 Tryd.underlying22 hi hz0 hz1 hz2 rfl (by decide) _ 0 [] rfl (World.ownsRow_nil _ _ _ _) ⟨lb, lo, none⟩ l.length lc (cells3 l) rfl (cells3_len l) (ops_cells (back_cells inv6)) (cells3_one l) (by unfold maxLen; omega) (by omega) (Nat.le_refl _) ?_; intro v1 W7 hown1 hgrow1 _; simp only [Nat.zero_add, List.nil_append] at hown1; obtain ⟨g1, cap1, rfl⟩ := Joins.ownsRow_form hown1 hl0; have b7 := (Below.refl W6.heap.size W6).grown hgrow1 (Nat.le_refl _) (fun k hk => by cases hk); have inv7 := inv6.all b7; have r0 := inv7.o0; have r1 := inv7.o1; have r2 := inv7.o2; have hs7 := b7.size; clear q0 q1 q2 hgrow1) | (at_builtin; refine wpList_append_own _ rfl (.tmp 100) (.tmp 102) 22 rfl W6.heap.size 24 ii (.agg #[.int .i64 0, .int .i64 0, .int .i64 0]) 3 24 Tryd.underlying22 hi hz0 hz1 hz2 rfl (by decide) _ _ _ rfl (hown1.alloc _) ⟨W7.heap.size, 0, none⟩ 1 1 [.int .i64 o.1, .int .i64 o.2.1, .int .i64 o.2.2] rfl rfl (three_new1 _ _ _ _ _) (by simp [Value.oneCell']) (by unfold maxLen; omega) (by omega) (by simp; omega) ?_; intro v2 W8 hown2 hgrow2 _; obtain ⟨g2, cap2, rfl⟩ := Joins.ownsRow_form hown2 (by omega); have b8 := ((b7.alloc hs7 _).grown hgrow2 (by simp; omega) (fun k hk => (hown1.lt k hk).1)); have inv8 := inv6.all b8; have hop8 := ops_more hown2; clear hown1 hown2 hgrow2 b7 b8 inv7 inv6) | (go_at_call 10; refine (h7 _ _ inv8.tabs hop8).mono ?_; rintro e W9 ⟨i9, p9, rfl, b9⟩; clear h7; have inv9 := inv8.all b9; clear inv8 b9 hop8))
  go_ret
  exact ⟨rfl, inv9.below⟩
set_option maxRecDepth 1000000 in
set_option maxHeartbeats 16000000 in
theorem back_bad_olong (v : Value) (l : List O3) (t : ByteArray) (o : O3) (w : World) (ht : Tabs2 w) (ho : Ops w v l) (htl : t.size ≤ 1099511627776) (hp : (parseB t.data.toList).2 ≠ 0) (hc : (chk l).2 = 0) (hq : (chk [o]).2 = 0) (hll : 20 ≤ l.length) :
    Calls Tryd.prog 3 #[v, .string t, .agg #[.int .i64 o.1, .int .i64 o.2.1, .int .i64 o.2.2]] w fun e w' => e = .returned (.bool true) ∧ Below w.heap.size w w' := by
  have inv0 := Stay.first o ht ho
  have h1 := parse_fact
  have h2 := fun W h => parse_fault t W h htl hp
  obtain ⟨ii, hi, hz0, hz1, hz2⟩ := info_parts infoOp
  have hz := chk_zero hc
  obtain ⟨lb, lo, lc, hv, hlt, _⟩ := back_form ho hz.1
  have hl0 : 0 < l.length := Nat.pos_of_ne_zero hz.1
  have hl20 : l.length ≤ 20 := hz.2.1
  have h3 := fun W ht ho => print_text v l ⟨(textB l).toArray⟩ W ht ho hc rfl
  have h4 := fun W h => parse_good ⟨(textB l).toArray⟩ l W h (by rw [ba_size]; have := text_le (l := l) (fun x hx => Or.inr (by have := ok3_small (by omega) (hz.2.2 x hx); omega)); omega) (parse_print hc)
  have h5 : ∀ W vx, Ops W vx l → Ops W v l → Calls Tryd.prog 9 #[vx, v] W fun e w' => e = .returned (.bool true) ∧ Below W.heap.size W w' := fun W vx hx hv => by
    have := same_any vx v l l W hx hv (by omega)
    rwa [show decide (l = l) = true by simp] at this
  have h6 := fun W v ht ho => check_good v [o] W ht ho hq
  have h7 := fun W v ht ho => check_some v (l ++ [o]) W ht ho
  have hll2 : (20 : Int) ≤ (l.length : Int) := by omega
  rw [hv] at inv0 h3 h5 ⊢
  clear hv ho ht hp hc hz hq hlt
  go_enter Tryd.func3, Tryd.ntmps3
  go_wp2_with (first | (go_at_call 7; refine (h1 _ inv0.tabs).mono ?_; rintro e W1 ⟨fb, fo, fc, rfl, f0, f1, f2, b1⟩; clear h1; have inv1 := inv0.all b1; clear inv0 b1) | (go_at_call 7; refine (h2 _ inv1.tabs).mono ?_; rintro e W2 ⟨xa, xn, xc, xp, rfl, b2⟩; clear h2; have inv2 := inv1.all b2; clear inv1 b2 f0 f1 f2) | (go_at_call 8; refine (h3 _ inv2.tabs inv2.ops).mono ?_; rintro e W3 ⟨rfl, b3⟩; clear h3; have inv3 := inv2.all b3; clear inv2 b3) | (go_at_call 7; refine (h4 _ inv3.tabs).mono ?_; rintro e W4 ⟨za, zn, zc, rfl, zo, b4⟩; clear h4; have inv4 := inv3.all b4; clear inv3 b4) | (go_at_call 9; refine (h5 _ _ zo inv4.ops).mono ?_; rintro e W5 ⟨rfl, b5⟩; clear h5; have inv5 := inv4.all b5; clear inv4 b5 zo; have p0 := inv5.o0; have p1 := inv5.o1; have p2 := inv5.o2) | (go_at_call 10; refine (h6 _ _ (inv5.alloc _).tabs (ops_one' o W5)).mono ?_; rintro e W6 ⟨i6, rfl, b6⟩; clear h6; have inv6 := (inv5.alloc _).all b6; have q0 := inv6.o0; have q1 := inv6.o1; have q2 := inv6.o2; have lt6 := inv6.lt; clear inv5 b6 p0 p1 p2) | (at_builtin; refine wpList_append_own _ rfl (.tmp 97) (.tmp 98) 22 rfl W6.heap.size 24 ii (.agg #[.int .i64 0, .int .i64 0, .int .i64 0]) 3 24 Tryd.underlying22 hi hz0 hz1 hz2 rfl (by decide) _ 0 [] rfl (World.ownsRow_nil _ _ _ _) ⟨lb, lo, none⟩ l.length lc (cells3 l) rfl (cells3_len l) (ops_cells (back_cells inv6)) (cells3_one l) (by unfold maxLen; omega) (by omega) (Nat.le_refl _) ?_; intro v1 W7 hown1 hgrow1 _; simp only [Nat.zero_add, List.nil_append] at hown1; obtain ⟨g1, cap1, rfl⟩ := Joins.ownsRow_form hown1 hl0; have b7 := (Below.refl W6.heap.size W6).grown hgrow1 (Nat.le_refl _) (fun k hk => by cases hk); have inv7 := inv6.all b7; have r0 := inv7.o0; have r1 := inv7.o1; have r2 := inv7.o2; have hs7 := b7.size; clear q0 q1 q2 hgrow1) | (at_builtin; refine wpList_append_own _ rfl (.tmp 100) (.tmp 102) 22 rfl W6.heap.size 24 ii (.agg #[.int .i64 0, .int .i64 0, .int .i64 0]) 3 24 Tryd.underlying22 hi hz0 hz1 hz2 rfl (by decide) _ _ _ rfl (hown1.alloc _) ⟨W7.heap.size, 0, none⟩ 1 1 [.int .i64 o.1, .int .i64 o.2.1, .int .i64 o.2.2] rfl rfl (three_new1 _ _ _ _ _) (by simp [Value.oneCell']) (by unfold maxLen; omega) (by omega) (by simp; omega) ?_; intro v2 W8 hown2 hgrow2 _; obtain ⟨g2, cap2, rfl⟩ := Joins.ownsRow_form hown2 (by omega); have b8 := ((b7.alloc hs7 _).grown hgrow2 (by simp; omega) (fun k hk => (hown1.lt k hk).1)); have inv8 := inv6.all b8; have hop8 := ops_more hown2; clear hown1 hown2 hgrow2 b7 b8 inv7 inv6) | (go_at_call 10; refine (h7 _ _ inv8.tabs hop8).mono ?_; rintro e W9 ⟨i9, p9, rfl, b9⟩; clear h7; have inv9 := inv8.all b9; clear inv8 b9 hop8))
  go_ret
  exact ⟨rfl, inv9.below⟩
set_option maxRecDepth 1000000 in
set_option maxHeartbeats 16000000 in
theorem back_good_olong (v : Value) (l : List O3) (t : ByteArray) (o : O3) (w : World) (ht : Tabs2 w) (ho : Ops w v l) (htl : t.size ≤ 1099511627776) (hp : (parseB t.data.toList).2 = 0) (hc : (chk l).2 = 0) (hq : (chk [o]).2 = 0) (hll : 20 ≤ l.length) :
    Calls Tryd.prog 3 #[v, .string t, .agg #[.int .i64 o.1, .int .i64 o.2.1, .int .i64 o.2.2]] w fun e w' => e = .returned (.bool true) ∧ Below w.heap.size w w' := by
  have inv0 := Stay.first o ht ho
  have h1 := parse_fact
  obtain ⟨X, hX⟩ : ∃ X, parseB t.data.toList = (X, 0) := ⟨_, Prod.ext rfl hp⟩
  have hpp := print_parse hp
  rw [hX] at hpp
  have h2 := fun W h => parse_good t X W h htl hX
  have h2b := fun W v ht ho => print_text v X t W ht ho hpp.1 hpp.2
  clear hX hpp
  obtain ⟨ii, hi, hz0, hz1, hz2⟩ := info_parts infoOp
  have hz := chk_zero hc
  obtain ⟨lb, lo, lc, hv, hlt, _⟩ := back_form ho hz.1
  have hl0 : 0 < l.length := Nat.pos_of_ne_zero hz.1
  have hl20 : l.length ≤ 20 := hz.2.1
  have h3 := fun W ht ho => print_text v l ⟨(textB l).toArray⟩ W ht ho hc rfl
  have h4 := fun W h => parse_good ⟨(textB l).toArray⟩ l W h (by rw [ba_size]; have := text_le (l := l) (fun x hx => Or.inr (by have := ok3_small (by omega) (hz.2.2 x hx); omega)); omega) (parse_print hc)
  have h5 : ∀ W vx, Ops W vx l → Ops W v l → Calls Tryd.prog 9 #[vx, v] W fun e w' => e = .returned (.bool true) ∧ Below W.heap.size W w' := fun W vx hx hv => by
    have := same_any vx v l l W hx hv (by omega)
    rwa [show decide (l = l) = true by simp] at this
  have h6 := fun W v ht ho => check_good v [o] W ht ho hq
  have h7 := fun W v ht ho => check_some v (l ++ [o]) W ht ho
  have hll2 : (20 : Int) ≤ (l.length : Int) := by omega
  rw [hv] at inv0 h3 h5 ⊢
  clear hv ho ht hp hc hz hq hlt
  go_enter Tryd.func3, Tryd.ntmps3
  go_wp2_with (first | (go_at_call 7; refine (h1 _ inv0.tabs).mono ?_; rintro e W1 ⟨fb, fo, fc, rfl, f0, f1, f2, b1⟩; clear h1; have inv1 := inv0.all b1; clear inv0 b1) | (go_at_call 7; refine (h2 _ inv1.tabs).mono ?_; rintro e Wq ⟨xa, xn, xc, rfl, xo, b2⟩; clear h2; have invq := inv1.all b2; clear inv1 b2 f0 f1 f2) | (go_at_call 8; refine (h2b _ _ invq.tabs xo).mono ?_; rintro e W2 ⟨rfl, b2⟩; clear h2b; have inv2 := invq.all b2; clear invq b2 xo) | (go_at_call 8; refine (h3 _ inv2.tabs inv2.ops).mono ?_; rintro e W3 ⟨rfl, b3⟩; clear h3; have inv3 := inv2.all b3; clear inv2 b3) | (go_at_call 7; refine (h4 _ inv3.tabs).mono ?_; rintro e W4 ⟨za, zn, zc, rfl, zo, b4⟩; clear h4; have inv4 := inv3.all b4; clear inv3 b4) | (go_at_call 9; refine (h5 _ _ zo inv4.ops).mono ?_; rintro e W5 ⟨rfl, b5⟩; clear h5; have inv5 := inv4.all b5; clear inv4 b5 zo; have p0 := inv5.o0; have p1 := inv5.o1; have p2 := inv5.o2) | (go_at_call 10; refine (h6 _ _ (inv5.alloc _).tabs (ops_one' o W5)).mono ?_; rintro e W6 ⟨i6, rfl, b6⟩; clear h6; have inv6 := (inv5.alloc _).all b6; have q0 := inv6.o0; have q1 := inv6.o1; have q2 := inv6.o2; have lt6 := inv6.lt; clear inv5 b6 p0 p1 p2) | (at_builtin; refine wpList_append_own _ rfl (.tmp 97) (.tmp 98) 22 rfl W6.heap.size 24 ii (.agg #[.int .i64 0, .int .i64 0, .int .i64 0]) 3 24 Tryd.underlying22 hi hz0 hz1 hz2 rfl (by decide) _ 0 [] rfl (World.ownsRow_nil _ _ _ _) ⟨lb, lo, none⟩ l.length lc (cells3 l) rfl (cells3_len l) (ops_cells (back_cells inv6)) (cells3_one l) (by unfold maxLen; omega) (by omega) (Nat.le_refl _) ?_; intro v1 W7 hown1 hgrow1 _; simp only [Nat.zero_add, List.nil_append] at hown1; obtain ⟨g1, cap1, rfl⟩ := Joins.ownsRow_form hown1 hl0; have b7 := (Below.refl W6.heap.size W6).grown hgrow1 (Nat.le_refl _) (fun k hk => by cases hk); have inv7 := inv6.all b7; have r0 := inv7.o0; have r1 := inv7.o1; have r2 := inv7.o2; have hs7 := b7.size; clear q0 q1 q2 hgrow1) | (at_builtin; refine wpList_append_own _ rfl (.tmp 100) (.tmp 102) 22 rfl W6.heap.size 24 ii (.agg #[.int .i64 0, .int .i64 0, .int .i64 0]) 3 24 Tryd.underlying22 hi hz0 hz1 hz2 rfl (by decide) _ _ _ rfl (hown1.alloc _) ⟨W7.heap.size, 0, none⟩ 1 1 [.int .i64 o.1, .int .i64 o.2.1, .int .i64 o.2.2] rfl rfl (three_new1 _ _ _ _ _) (by simp [Value.oneCell']) (by unfold maxLen; omega) (by omega) (by simp; omega) ?_; intro v2 W8 hown2 hgrow2 _; obtain ⟨g2, cap2, rfl⟩ := Joins.ownsRow_form hown2 (by omega); have b8 := ((b7.alloc hs7 _).grown hgrow2 (by simp; omega) (fun k hk => (hown1.lt k hk).1)); have inv8 := inv6.all b8; have hop8 := ops_more hown2; clear hown1 hown2 hgrow2 b7 b8 inv7 inv6) | (go_at_call 10; refine (h7 _ _ inv8.tabs hop8).mono ?_; rintro e W9 ⟨i9, p9, rfl, b9⟩; clear h7; have inv9 := inv8.all b9; clear inv8 b9 hop8))
  go_ret
  exact ⟨rfl, inv9.below⟩
set_option maxRecDepth 1000000 in
set_option maxHeartbeats 16000000 in
theorem back_bad_ogood (v : Value) (l : List O3) (t : ByteArray) (o : O3) (w : World) (ht : Tabs2 w) (ho : Ops w v l) (htl : t.size ≤ 1099511627776) (hp : (parseB t.data.toList).2 ≠ 0) (hc : (chk l).2 = 0) (hq : (chk [o]).2 = 0) (hll : l.length < 20) :
    Calls Tryd.prog 3 #[v, .string t, .agg #[.int .i64 o.1, .int .i64 o.2.1, .int .i64 o.2.2]] w fun e w' => e = .returned (.bool true) ∧ Below w.heap.size w w' := by
  have inv0 := Stay.first o ht ho
  have h1 := parse_fact
  have h2 := fun W h => parse_fault t W h htl hp
  obtain ⟨ii, hi, hz0, hz1, hz2⟩ := info_parts infoOp
  have hz := chk_zero hc
  obtain ⟨lb, lo, lc, hv, hlt, _⟩ := back_form ho hz.1
  have hl0 : 0 < l.length := Nat.pos_of_ne_zero hz.1
  have hl20 : l.length ≤ 20 := hz.2.1
  have h3 := fun W ht ho => print_text v l ⟨(textB l).toArray⟩ W ht ho hc rfl
  have h4 := fun W h => parse_good ⟨(textB l).toArray⟩ l W h (by rw [ba_size]; have := text_le (l := l) (fun x hx => Or.inr (by have := ok3_small (by omega) (hz.2.2 x hx); omega)); omega) (parse_print hc)
  have h5 : ∀ W vx, Ops W vx l → Ops W v l → Calls Tryd.prog 9 #[vx, v] W fun e w' => e = .returned (.bool true) ∧ Below W.heap.size W w' := fun W vx hx hv => by
    have := same_any vx v l l W hx hv (by omega)
    rwa [show decide (l = l) = true by simp] at this
  have h6 := fun W v ht ho => check_good v [o] W ht ho hq
  have h7 := fun W v ht ho => check_good v (l ++ [o]) W ht ho (chk_more hc hq hll)
  have hll2 : (l.length : Int) < 20 := by omega
  rw [hv] at inv0 h3 h5 ⊢
  clear hv ho ht hp hc hz hq hlt
  go_enter Tryd.func3, Tryd.ntmps3
  go_wp2_with (first | (go_at_call 7; refine (h1 _ inv0.tabs).mono ?_; rintro e W1 ⟨fb, fo, fc, rfl, f0, f1, f2, b1⟩; clear h1; have inv1 := inv0.all b1; clear inv0 b1) | (go_at_call 7; refine (h2 _ inv1.tabs).mono ?_; rintro e W2 ⟨xa, xn, xc, xp, rfl, b2⟩; clear h2; have inv2 := inv1.all b2; clear inv1 b2 f0 f1 f2) | (go_at_call 8; refine (h3 _ inv2.tabs inv2.ops).mono ?_; rintro e W3 ⟨rfl, b3⟩; clear h3; have inv3 := inv2.all b3; clear inv2 b3) | (go_at_call 7; refine (h4 _ inv3.tabs).mono ?_; rintro e W4 ⟨za, zn, zc, rfl, zo, b4⟩; clear h4; have inv4 := inv3.all b4; clear inv3 b4) | (go_at_call 9; refine (h5 _ _ zo inv4.ops).mono ?_; rintro e W5 ⟨rfl, b5⟩; clear h5; have inv5 := inv4.all b5; clear inv4 b5 zo; have p0 := inv5.o0; have p1 := inv5.o1; have p2 := inv5.o2) | (go_at_call 10; refine (h6 _ _ (inv5.alloc _).tabs (ops_one' o W5)).mono ?_; rintro e W6 ⟨i6, rfl, b6⟩; clear h6; have inv6 := (inv5.alloc _).all b6; have q0 := inv6.o0; have q1 := inv6.o1; have q2 := inv6.o2; have lt6 := inv6.lt; clear inv5 b6 p0 p1 p2) | (at_builtin; refine wpList_append_own _ rfl (.tmp 97) (.tmp 98) 22 rfl W6.heap.size 24 ii (.agg #[.int .i64 0, .int .i64 0, .int .i64 0]) 3 24 Tryd.underlying22 hi hz0 hz1 hz2 rfl (by decide) _ 0 [] rfl (World.ownsRow_nil _ _ _ _) ⟨lb, lo, none⟩ l.length lc (cells3 l) rfl (cells3_len l) (ops_cells (back_cells inv6)) (cells3_one l) (by unfold maxLen; omega) (by omega) (Nat.le_refl _) ?_; intro v1 W7 hown1 hgrow1 _; simp only [Nat.zero_add, List.nil_append] at hown1; obtain ⟨g1, cap1, rfl⟩ := Joins.ownsRow_form hown1 hl0; have b7 := (Below.refl W6.heap.size W6).grown hgrow1 (Nat.le_refl _) (fun k hk => by cases hk); have inv7 := inv6.all b7; have r0 := inv7.o0; have r1 := inv7.o1; have r2 := inv7.o2; have hs7 := b7.size; clear q0 q1 q2 hgrow1) | (at_builtin; refine wpList_append_own _ rfl (.tmp 100) (.tmp 102) 22 rfl W6.heap.size 24 ii (.agg #[.int .i64 0, .int .i64 0, .int .i64 0]) 3 24 Tryd.underlying22 hi hz0 hz1 hz2 rfl (by decide) _ _ _ rfl (hown1.alloc _) ⟨W7.heap.size, 0, none⟩ 1 1 [.int .i64 o.1, .int .i64 o.2.1, .int .i64 o.2.2] rfl rfl (three_new1 _ _ _ _ _) (by simp [Value.oneCell']) (by unfold maxLen; omega) (by omega) (by simp; omega) ?_; intro v2 W8 hown2 hgrow2 _; obtain ⟨g2, cap2, rfl⟩ := Joins.ownsRow_form hown2 (by omega); have b8 := ((b7.alloc hs7 _).grown hgrow2 (by simp; omega) (fun k hk => (hown1.lt k hk).1)); have inv8 := inv6.all b8; have hop8 := ops_more hown2; clear hown1 hown2 hgrow2 b7 b8 inv7 inv6) | (go_at_call 10; refine (h7 _ _ inv8.tabs hop8).mono ?_; rintro e W9 ⟨i9, rfl, b9⟩; clear h7; have inv9 := inv8.all b9; clear inv8 b9 hop8))
  go_ret
  exact ⟨rfl, inv9.below⟩
set_option maxRecDepth 1000000 in
set_option maxHeartbeats 16000000 in
theorem back_good_ogood (v : Value) (l : List O3) (t : ByteArray) (o : O3) (w : World) (ht : Tabs2 w) (ho : Ops w v l) (htl : t.size ≤ 1099511627776) (hp : (parseB t.data.toList).2 = 0) (hc : (chk l).2 = 0) (hq : (chk [o]).2 = 0) (hll : l.length < 20) :
    Calls Tryd.prog 3 #[v, .string t, .agg #[.int .i64 o.1, .int .i64 o.2.1, .int .i64 o.2.2]] w fun e w' => e = .returned (.bool true) ∧ Below w.heap.size w w' := by
  have inv0 := Stay.first o ht ho
  have h1 := parse_fact
  obtain ⟨X, hX⟩ : ∃ X, parseB t.data.toList = (X, 0) := ⟨_, Prod.ext rfl hp⟩
  have hpp := print_parse hp
  rw [hX] at hpp
  have h2 := fun W h => parse_good t X W h htl hX
  have h2b := fun W v ht ho => print_text v X t W ht ho hpp.1 hpp.2
  clear hX hpp
  obtain ⟨ii, hi, hz0, hz1, hz2⟩ := info_parts infoOp
  have hz := chk_zero hc
  obtain ⟨lb, lo, lc, hv, hlt, _⟩ := back_form ho hz.1
  have hl0 : 0 < l.length := Nat.pos_of_ne_zero hz.1
  have hl20 : l.length ≤ 20 := hz.2.1
  have h3 := fun W ht ho => print_text v l ⟨(textB l).toArray⟩ W ht ho hc rfl
  have h4 := fun W h => parse_good ⟨(textB l).toArray⟩ l W h (by rw [ba_size]; have := text_le (l := l) (fun x hx => Or.inr (by have := ok3_small (by omega) (hz.2.2 x hx); omega)); omega) (parse_print hc)
  have h5 : ∀ W vx, Ops W vx l → Ops W v l → Calls Tryd.prog 9 #[vx, v] W fun e w' => e = .returned (.bool true) ∧ Below W.heap.size W w' := fun W vx hx hv => by
    have := same_any vx v l l W hx hv (by omega)
    rwa [show decide (l = l) = true by simp] at this
  have h6 := fun W v ht ho => check_good v [o] W ht ho hq
  have h7 := fun W v ht ho => check_good v (l ++ [o]) W ht ho (chk_more hc hq hll)
  have hll2 : (l.length : Int) < 20 := by omega
  rw [hv] at inv0 h3 h5 ⊢
  clear hv ho ht hp hc hz hq hlt
  go_enter Tryd.func3, Tryd.ntmps3
  go_wp2_with (first | (go_at_call 7; refine (h1 _ inv0.tabs).mono ?_; rintro e W1 ⟨fb, fo, fc, rfl, f0, f1, f2, b1⟩; clear h1; have inv1 := inv0.all b1; clear inv0 b1) | (go_at_call 7; refine (h2 _ inv1.tabs).mono ?_; rintro e Wq ⟨xa, xn, xc, rfl, xo, b2⟩; clear h2; have invq := inv1.all b2; clear inv1 b2 f0 f1 f2) | (go_at_call 8; refine (h2b _ _ invq.tabs xo).mono ?_; rintro e W2 ⟨rfl, b2⟩; clear h2b; have inv2 := invq.all b2; clear invq b2 xo) | (go_at_call 8; refine (h3 _ inv2.tabs inv2.ops).mono ?_; rintro e W3 ⟨rfl, b3⟩; clear h3; have inv3 := inv2.all b3; clear inv2 b3) | (go_at_call 7; refine (h4 _ inv3.tabs).mono ?_; rintro e W4 ⟨za, zn, zc, rfl, zo, b4⟩; clear h4; have inv4 := inv3.all b4; clear inv3 b4) | (go_at_call 9; refine (h5 _ _ zo inv4.ops).mono ?_; rintro e W5 ⟨rfl, b5⟩; clear h5; have inv5 := inv4.all b5; clear inv4 b5 zo; have p0 := inv5.o0; have p1 := inv5.o1; have p2 := inv5.o2) | (go_at_call 10; refine (h6 _ _ (inv5.alloc _).tabs (ops_one' o W5)).mono ?_; rintro e W6 ⟨i6, rfl, b6⟩; clear h6; have inv6 := (inv5.alloc _).all b6; have q0 := inv6.o0; have q1 := inv6.o1; have q2 := inv6.o2; have lt6 := inv6.lt; clear inv5 b6 p0 p1 p2) | (at_builtin; refine wpList_append_own _ rfl (.tmp 97) (.tmp 98) 22 rfl W6.heap.size 24 ii (.agg #[.int .i64 0, .int .i64 0, .int .i64 0]) 3 24 Tryd.underlying22 hi hz0 hz1 hz2 rfl (by decide) _ 0 [] rfl (World.ownsRow_nil _ _ _ _) ⟨lb, lo, none⟩ l.length lc (cells3 l) rfl (cells3_len l) (ops_cells (back_cells inv6)) (cells3_one l) (by unfold maxLen; omega) (by omega) (Nat.le_refl _) ?_; intro v1 W7 hown1 hgrow1 _; simp only [Nat.zero_add, List.nil_append] at hown1; obtain ⟨g1, cap1, rfl⟩ := Joins.ownsRow_form hown1 hl0; have b7 := (Below.refl W6.heap.size W6).grown hgrow1 (Nat.le_refl _) (fun k hk => by cases hk); have inv7 := inv6.all b7; have r0 := inv7.o0; have r1 := inv7.o1; have r2 := inv7.o2; have hs7 := b7.size; clear q0 q1 q2 hgrow1) | (at_builtin; refine wpList_append_own _ rfl (.tmp 100) (.tmp 102) 22 rfl W6.heap.size 24 ii (.agg #[.int .i64 0, .int .i64 0, .int .i64 0]) 3 24 Tryd.underlying22 hi hz0 hz1 hz2 rfl (by decide) _ _ _ rfl (hown1.alloc _) ⟨W7.heap.size, 0, none⟩ 1 1 [.int .i64 o.1, .int .i64 o.2.1, .int .i64 o.2.2] rfl rfl (three_new1 _ _ _ _ _) (by simp [Value.oneCell']) (by unfold maxLen; omega) (by omega) (by simp; omega) ?_; intro v2 W8 hown2 hgrow2 _; obtain ⟨g2, cap2, rfl⟩ := Joins.ownsRow_form hown2 (by omega); have b8 := ((b7.alloc hs7 _).grown hgrow2 (by simp; omega) (fun k hk => (hown1.lt k hk).1)); have inv8 := inv6.all b8; have hop8 := ops_more hown2; clear hown1 hown2 hgrow2 b7 b8 inv7 inv6) | (go_at_call 10; refine (h7 _ _ inv8.tabs hop8).mono ?_; rintro e W9 ⟨i9, rfl, b9⟩; clear h7; have inv9 := inv8.all b9; clear inv8 b9 hop8))
  go_ret
  exact ⟨rfl, inv9.below⟩
end Go.Proofs.YtfneffmiignapaaDoor
