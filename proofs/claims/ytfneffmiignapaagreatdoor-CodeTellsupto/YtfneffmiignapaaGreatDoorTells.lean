/-
  framelaw1.CodeTells: the walk.
-/
import Derived.Test.YtfneffmiignapaaGreatDoorRefReadCode
import Derived.Test.YtfneffmiignapaaGreatDoorTold
import Derived.Test.YtfneffmiignapaaGreatDoorRefPut
import Derived.Test.YtfneffmiignapaaGreatDoorSameInts
import Derived.Test.YtfneffmiignapaaGreatDoorWiresTop
import Derived.Test.YtfneffmiignapaaGreatDoorSame
import Derived.Test.YtfneffmiignapaaGreatDoorPrint
namespace Go.Proofs.YtfneffmiignapaaGreatDoor
open Go.RowKit

/-- What stays behind each call of the law. -/
structure Kept (w : World) (v : Value) (l : List O3) (W : World) : Prop where
  tabs : Tabs2 W
  ops : Ops W v l
  errT : ErrT W
  below : Below w.heap.size w W
theorem Kept.all {w : World} {v : Value} {l : List O3} {W W' : World} (h : Kept w v l W) (hb : Below W.heap.size W W') : Kept w v l W' :=
  ⟨h.tabs.all hb, h.ops.all hb, h.errT.all hb, h.below.trans (hb.mono h.below.size)⟩

theorem t_code (w : World) (v : Value) (l : List O3) (W : World) (h : Kept w v l W) : Calls Tryz.prog 4 #[v] W fun e w' => e = .returned (.tuple #[.int .i64 (chk l).1, .int .i64 (chk l).2]) ∧ Kept w v l w' :=
  (refcode_any v l W h.ops).mono fun _ _ r => ⟨r.1, h.all r.2⟩
theorem t_check (w : World) (v : Value) (l : List O3) (W : World) (h : Kept w v l W) : Calls Tryz.prog 5 #[v] W fun e w' => e = .returned (.tuple #[.int .i64 (chk l).1, errV (chk l).2]) ∧ Kept w v l w' :=
  (check_any v l W h.tabs.tabs.forms h.ops).mono fun _ _ r => ⟨r.1, h.all r.2⟩
theorem t_error (w : World) (v : Value) (l : List O3) (e : Int) (W : World) (h : Kept w v l W) : Calls Tryz.prog 6 #[errV e, .int .i64 e] W fun r w' => r = .returned (.bool true) ∧ Kept w v l w' ∧ Below W.heap.size W w' :=
  (error_any e e W h.errT).mono fun _ _ r => ⟨by rw [r.1, decide_eq_true rfl], h.all r.2, r.2⟩
theorem t_text (w : World) (v : Value) (l : List O3) (hk : (chk l).2 = 0) (W : World) (h : Kept w v l W) : Calls Tryz.prog 7 #[v] W fun e w' => e = .returned (.string ⟨(textB l).toArray⟩) ∧ Kept w v l w' :=
  (codetext_any v l W h.ops hk).mono fun _ _ r => ⟨r.1, h.all r.2⟩
theorem t_ports (w : World) (v : Value) (l : List O3) (hk : (chk l).2 = 0) (what : Int) (hw : what = 8 ∨ what = 9) (W : World) (h : Kept w v l W) : Calls Tryz.prog 8 #[v, .int .i64 what] W fun e w' => ∃ v', e = .returned v' ∧ Ints w' v' (wiresB what l) ∧ Kept w v l w' ∧ Below W.heap.size W w' :=
  (ports_any what v l W h.ops hk hw).mono fun _ _ ⟨v', r1, r2, r3⟩ => ⟨v', r1, r2, h.all r3, r3⟩
theorem t_print (w : World) (v : Value) (l : List O3) (W : World) (h : Kept w v l W) : Calls Tryz.prog 9 #[v] W fun e w' => e = .returned (.tuple #[.string ⟨(textOf l).toArray⟩, errV (chk l).2]) ∧ Kept w v l w' ∧ Below W.heap.size W w' :=
  (print_any v l W h.tabs.tabs h.ops).mono fun _ _ r => ⟨r.1, h.all r.2, r.2⟩
theorem t_wires (w : World) (v : Value) (l : List O3) (hk : (chk l).2 = 0) (W : World) (h : Kept w v l W) : Calls Tryz.prog 10 #[v] W fun e w' => ∃ x y, e = .returned (.tuple #[x, y, .nilIface]) ∧ Ints w' x (wiresB 8 l) ∧ Ints w' y (wiresB 9 l) ∧ Kept w v l w' ∧ Below W.heap.size W w' :=
  (wires_good v l W h.tabs.tabs.forms h.ops hk).mono fun _ _ ⟨x, y, r1, r2, r3, r4⟩ => ⟨x, y, r1, r2, r3, h.all r4, r4⟩
theorem t_wiresno (w : World) (v : Value) (l : List O3) (hk : (chk l).2 ≠ 0) (W : World) (h : Kept w v l W) : Calls Tryz.prog 10 #[v] W fun e w' => e = .returned (.tuple #[.slice none 0 0, .slice none 0 0, errV (chk l).2]) ∧ Kept w v l w' ∧ Below W.heap.size W w' :=
  (wires_fault v l W h.tabs.tabs.forms h.ops hk).mono fun _ _ r => ⟨r.1, h.all r.2, r.2⟩
theorem t_ints (w : World) (v : Value) (l : List O3) (what : Int) (a b : Value) (W : World) (h : Kept w v l W) (ha : Ints W a (wiresB what l)) (hb : Ints W b (wiresB what l)) : Calls Tryz.prog 11 #[a, b] W fun e w' => e = .returned (.bool true) ∧ Kept w v l w' ∧ Below W.heap.size W w' :=
  (sameints_any a b _ W ha hb (Nat.le_trans (wires_len what l) (by decide))).mono fun _ _ r => ⟨r.1, h.all r.2, r.2⟩
theorem t_nils (w : World) (v : Value) (l : List O3) (W : World) (h : Kept w v l W) : Calls Tryz.prog 11 #[.slice none 0 0, .slice none 0 0] W fun e w' => e = .returned (.bool true) ∧ Kept w v l w' :=
  (sameints_any _ _ [] W (Or.inl ⟨rfl, rfl⟩) (Or.inl ⟨rfl, rfl⟩) (by simp)).mono fun _ _ r => ⟨r.1, h.all r.2⟩
theorem t_read (w : World) (v : Value) (l : List O3) (t : ByteArray) (hs : t.size ≤ 1099511627776) (W : World) (h : Kept w v l W) : Calls Tryz.prog 12 #[.string t] W fun e w' => ∃ vv, e = .returned (.tuple #[vv, .int .i64 (parseB t.data.toList).2]) ∧ Ops w' vv (parseB t.data.toList).1 ∧ Kept w v l w' :=
  (readcode_any t W hs).mono fun _ _ ⟨vv, r1, r2, r3⟩ => ⟨vv, r1, r2, h.all r3⟩
theorem t_parse (w : World) (v : Value) (l : List O3) (t : ByteArray) (hs : t.size ≤ 1099511627776) (W : World) (h : Kept w v l W) : Calls Tryz.prog 13 #[.string t] W fun e w' => ∃ vv, e = .returned (.tuple #[vv, errV (parseB t.data.toList).2]) ∧ Ops w' vv (parseB t.data.toList).1 ∧ Kept w v l w' ∧ Below W.heap.size W w' :=
  (parse_any t W h.tabs hs).mono fun _ _ ⟨vv, r1, r2, r3⟩ => ⟨vv, r1, r2, h.all r3, r3⟩
theorem parse_short (t : List UInt8) : (parseB t).1.length ≤ 20 := by
  unfold parseB
  split
  · simp
  · rename_i os _
    by_cases h : (chk os).2 = 0
    · rw [if_pos h]; exact (chk_zero h).2.1
    · rw [if_neg h]; simp
theorem t_same (w : World) (v : Value) (l X : List O3) (hX : X.length ≤ 20) (a b : Value) (W : World) (h : Kept w v l W) (ha : Ops W a X) (hb : Ops W b X) : Calls Tryz.prog 14 #[a, b] W fun e w' => e = .returned (.bool true) ∧ Kept w v l w' :=
  (same_any a b X X W ha hb (by omega)).mono fun _ _ r => ⟨by rw [r.1, decide_eq_true rfl], h.all r.2⟩

set_option maxRecDepth 1000000 in
set_option maxHeartbeats 16000000 in
theorem tells_good (v : Value) (l : List O3) (t : ByteArray) (w : World) (ht : Tabs2 w) (hg : ErrT w) (ho : Ops w v l) (hs : t.size ≤ 1099511627776) (hk : (chk l).2 = 0) :
    Calls Tryz.prog 3 #[v, .string t] w fun e w' => e = .returned (.bool true) ∧ Below w.heap.size w w' := by
  have i0 : Kept w v l w := ⟨ht, ho, hg, Below.refl _ _⟩
  have h1 := t_code w v l
  have h2 := t_check w v l
  have e1 := t_error w v l 0
  have h3 := t_text w v l hk
  have h4 := t_ports w v l hk 8 (Or.inl rfl)
  have h5 := t_ports w v l hk 9 (Or.inr rfl)
  have h6 := t_print w v l
  have e2 := t_error w v l 0
  have h7 := t_wires w v l hk
  have e3 := t_error w v l 0
  have h8 := t_ints w v l 8
  have h9 := t_ints w v l 9
  have h10 := t_read w v l t hs
  have h11 := t_parse w v l t hs
  have e4 := t_error w v l (parseB t.data.toList).2
  have h12 := t_same w v l (parseB t.data.toList).1 (parse_short _)
  rw [hk] at h1 h2 h6
  have hz : errV 0 = .nilIface := rfl
  rw [hz] at h2 e1 h6 e2 e3
  have htx : textOf l = textB l := by unfold textOf; rw [if_pos hk]
  rw [htx] at h6
  obtain ⟨T, hT⟩ : ∃ T, T = textB l := ⟨_, rfl⟩
  rw [← hT] at h3 h6
  obtain ⟨A, hA⟩ : ∃ A, A = (chk l).1 := ⟨_, rfl⟩
  rw [← hA] at h1 h2
  obtain ⟨X, hX⟩ : ∃ X, X = (parseB t.data.toList).1 := ⟨_, rfl⟩
  rw [← hX] at h10 h11 h12
  obtain ⟨E, hE⟩ : ∃ E, E = (parseB t.data.toList).2 := ⟨_, rfl⟩
  rw [← hE] at h10 h11 e4
  obtain ⟨V, hV⟩ : ∃ V, V = errV E := ⟨_, rfl⟩
  rw [← hV] at h11 e4
  obtain ⟨L8, hL8⟩ : ∃ L, L = wiresB 8 l := ⟨_, rfl⟩
  rw [← hL8] at h4 h7 h8
  obtain ⟨L9, hL9⟩ : ∃ L, L = wiresB 9 l := ⟨_, rfl⟩
  rw [← hL9] at h5 h7 h9
  clear htx hT hA hX hE hV hL8 hL9 hz hk ht hg ho hs
  go_enter Tryz.func3, Tryz.ntmps3
  go_wp2_with (first
    | (go_at_call 4; refine (h1 _ i0).mono ?_; rintro e W1 ⟨rfl, i1⟩; clear h1 i0)
    | (go_at_call 5; refine (h2 _ i1).mono ?_; rintro e W2 ⟨rfl, i2⟩; clear h2 i1)
    | (go_at_call 6; refine (e1 _ i2).mono ?_; rintro e W3 ⟨rfl, i3, b3⟩; clear e1 i2 b3)
    | (go_at_call 7; refine (h3 _ i3).mono ?_; rintro e W4 ⟨rfl, i4⟩; clear h3 i3)
    | (go_at_call 8; refine (h4 _ i4).mono ?_; rintro e W5 ⟨vo, rfl, no5, i5, b5⟩; clear h4 i4 b5)
    | (go_at_call 8; refine (h5 _ i5).mono ?_; rintro e W6 ⟨vi, rfl, ni6, i6, b6⟩; have no6 := ints_all no5 b6; clear h5 i5 b6 no5)
    | (go_at_call 9; refine (h6 _ i6).mono ?_; rintro e W7 ⟨rfl, i7, b7⟩; have no7 := ints_all no6 b7; have ni7 := ints_all ni6 b7; clear h6 i6 b7 no6 ni6)
    | (go_at_call 6; refine (e2 _ i7).mono ?_; rintro e W8 ⟨rfl, i8, b8⟩; have no8 := ints_all no7 b8; have ni8 := ints_all ni7 b8; clear e2 i7 b8 no7 ni7)
    | (go_at_call 10; refine (h7 _ i8).mono ?_; rintro e W9 ⟨vx, vy, rfl, nx9, ny9, i9, b9⟩; have no9 := ints_all no8 b9; have ni9 := ints_all ni8 b9; clear h7 i8 b9 no8 ni8)
    | (go_at_call 6; refine (e3 _ i9).mono ?_; rintro e W10 ⟨rfl, i10, b10⟩; have no10 := ints_all no9 b10; have ni10 := ints_all ni9 b10; have nx10 := ints_all nx9 b10; have ny10 := ints_all ny9 b10; clear e3 i9 b10 no9 ni9 nx9 ny9)
    | (go_at_call 11; refine (h8 _ _ _ i10 nx10 no10).mono ?_; rintro e W11 ⟨rfl, i11, b11⟩; have ni11 := ints_all ni10 b11; have ny11 := ints_all ny10 b11; clear h8 i10 b11 no10 ni10 nx10 ny10)
    | (go_at_call 11; refine (h9 _ _ _ i11 ny11 ni11).mono ?_; rintro e W12 ⟨rfl, i12, b12⟩; clear h9 i11 b12 ni11 ny11)
    | (go_at_call 12; refine (h10 _ i12).mono ?_; rintro e W13 ⟨vw, rfl, ow13, i13⟩; clear h10 i12)
    | (go_at_call 13; refine (h11 _ i13).mono ?_; rintro e W14 ⟨vg, rfl, og14, i14, b14⟩; have ow14 := Ops.all ow13 b14; clear h11 i13 b14 ow13)
    | (go_at_call 6; refine (e4 _ i14).mono ?_; rintro e W15 ⟨rfl, i15, b15⟩; have ow15 := Ops.all ow14 b15; have og15 := Ops.all og14 b15; clear e4 i14 b15 ow14 og14)
    | (go_at_call 14; refine (h12 _ _ _ i15 og15 ow15).mono ?_; rintro e W16 ⟨rfl, i16⟩; clear h12 i15 ow15 og15))
  go_ret
  exact ⟨rfl, i16.below⟩

set_option maxRecDepth 1000000 in
set_option maxHeartbeats 16000000 in
theorem tells_bad (v : Value) (l : List O3) (t : ByteArray) (w : World) (ht : Tabs2 w) (hg : ErrT w) (ho : Ops w v l) (hs : t.size ≤ 1099511627776) (hk : (chk l).2 ≠ 0) :
    Calls Tryz.prog 3 #[v, .string t] w fun e w' => e = .returned (.bool true) ∧ Below w.heap.size w w' := by
  have i0 : Kept w v l w := ⟨ht, ho, hg, Below.refl _ _⟩
  have h1 := t_code w v l
  have h2 := t_check w v l
  have e1 := t_error w v l (chk l).2
  have h6 := t_print w v l
  have e2 := t_error w v l (chk l).2
  have h7 := t_wiresno w v l hk
  have e3 := t_error w v l (chk l).2
  have h8 := t_nils w v l
  have h9 := t_nils w v l
  have h10 := t_read w v l t hs
  have h11 := t_parse w v l t hs
  have e4 := t_error w v l (parseB t.data.toList).2
  have h12 := t_same w v l (parseB t.data.toList).1 (parse_short _)
  have htx : textOf l = [] := by unfold textOf; rw [if_neg hk]
  rw [htx] at h6
  obtain ⟨A, hA⟩ : ∃ A, A = (chk l).1 := ⟨_, rfl⟩
  rw [← hA] at h1 h2
  obtain ⟨F, hF⟩ : ∃ F, F = (chk l).2 := ⟨_, rfl⟩
  have hF0 : (F == 0) = false := by rw [hF]; simpa using hk
  rw [← hF] at h1 h2 e1 h6 e2 h7 e3
  obtain ⟨U, hU⟩ : ∃ U, U = errV F := ⟨_, rfl⟩
  rw [← hU] at h2 e1 h6 e2 h7 e3
  obtain ⟨X, hX⟩ : ∃ X, X = (parseB t.data.toList).1 := ⟨_, rfl⟩
  rw [← hX] at h10 h11 h12
  obtain ⟨E, hE⟩ : ∃ E, E = (parseB t.data.toList).2 := ⟨_, rfl⟩
  rw [← hE] at h10 h11 e4
  obtain ⟨V, hV⟩ : ∃ V, V = errV E := ⟨_, rfl⟩
  rw [← hV] at h11 e4
  clear htx hA hF hU hX hE hV hk ht hg ho hs
  go_enter Tryz.func3, Tryz.ntmps3
  go_wp2_with (first
    | (go_at_call 4; refine (h1 _ i0).mono ?_; rintro e W1 ⟨rfl, i1⟩; clear h1 i0)
    | (go_at_call 5; refine (h2 _ i1).mono ?_; rintro e W2 ⟨rfl, i2⟩; clear h2 i1)
    | (go_at_call 6; refine (e1 _ i2).mono ?_; rintro e W6 ⟨rfl, i6, b6⟩; clear e1 i2 b6)
    | (go_at_call 9; refine (h6 _ i6).mono ?_; rintro e W7 ⟨rfl, i7, b7⟩; clear h6 i6 b7)
    | (go_at_call 6; refine (e2 _ i7).mono ?_; rintro e W8 ⟨rfl, i8, b8⟩; clear e2 i7 b8)
    | (go_at_call 10; refine (h7 _ i8).mono ?_; rintro e W9 ⟨rfl, i9, b9⟩; clear h7 i8 b9)
    | (go_at_call 6; refine (e3 _ i9).mono ?_; rintro e W10 ⟨rfl, i10, b10⟩; clear e3 i9 b10)
    | (go_at_call 11; refine (h8 _ i10).mono ?_; rintro e W11 ⟨rfl, i11⟩; clear h8 i10)
    | (go_at_call 11; refine (h9 _ i11).mono ?_; rintro e W12 ⟨rfl, i12⟩; clear h9 i11)
    | (go_at_call 12; refine (h10 _ i12).mono ?_; rintro e W13 ⟨vw, rfl, ow13, i13⟩; clear h10 i12)
    | (go_at_call 13; refine (h11 _ i13).mono ?_; rintro e W14 ⟨vg, rfl, og14, i14, b14⟩; have ow14 := Ops.all ow13 b14; clear h11 i13 b14 ow13)
    | (go_at_call 6; refine (e4 _ i14).mono ?_; rintro e W15 ⟨rfl, i15, b15⟩; have ow15 := Ops.all ow14 b15; have og15 := Ops.all og14 b15; clear e4 i14 b15 ow14 og14)
    | (go_at_call 14; refine (h12 _ _ _ i15 og15 ow15).mono ?_; rintro e W16 ⟨rfl, i16⟩; clear h12 i15 ow15 og15))
  go_ret
  exact ⟨rfl, i16.below⟩

theorem tells_any (v : Value) (l : List O3) (t : ByteArray) (w : World) (ht : Tabs2 w) (hg : ErrT w) (ho : Ops w v l) (hs : t.size ≤ 1099511627776) :
    Calls Tryz.prog 3 #[v, .string t] w fun e w' => e = .returned (.bool true) ∧ Below w.heap.size w w' := by
  by_cases hk : (chk l).2 = 0
  · exact tells_good v l t w ht hg ho hs hk
  · exact tells_bad v l t w ht hg ho hs hk
end Go.Proofs.YtfneffmiignapaaGreatDoor
