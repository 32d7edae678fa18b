/-
  Wires, WiresTop, RefFrame2: joined into one text.
-/
import Derived.Test.YtfconbblnmbnpagGreatDoorJa1
import Derived.Test.YtfconbblnmbnpagGreatDoorJa3
import Derived.OwnWalk
import Derived.Deep.QuietTactic
import Derived.BigQuiet
import Derived.WalkSmall
namespace Go.Proofs.YtfconbblnmbnpagGreatDoor
open Go.RowKit

set_option maxRecDepth 100000 in
set_option maxHeartbeats 1000000 in
theorem on_any (o : O3) (wb ib : Nat) (what : Int) (i : Nat) (w : World) (h1 : w.cell? ⟨wb, 0, none⟩ = some (.int .i64 what)) (h2 : w.cell? ⟨ib, 0, none⟩ = some (.int .i64 i)) :
    Calls Tryz.prog 92 #[.agg #[.int .i64 o.1, .int .i64 o.2.1, .int .i64 o.2.2], .pointer (some ⟨wb, 0, none⟩), .pointer (some ⟨ib, 0, none⟩)] w fun e w' => e = .returned (.bool (onW what i o)) ∧ Below w.heap.size w w' := by
  have hlt1 := lt_of_cell h1
  have hlt2 := lt_of_cell h2
  have hn1 : wb ≠ w.heap.size := by omega
  have hn2 : ib ≠ w.heap.size := by omega
  by_cases hq : o.1 = what
  · have hqb : (o.1 == what) = true := by simpa using hq
    by_cases hr : o.2.2 = (i : Int)
    · have hrb : (o.2.2 == (i : Int)) = true := by simpa using hr
      have HR : Hid (onW what i o = true) := by show _ = _; simp [onW, hq, hr]
      clear hq hr
      go_enter Tryz.func92, Tryz.ntmps92
      go_wp2
      go_ret
      exact ⟨ret_bool HR.out.symm, (Below.refl _ _).alloc (Nat.le_refl _) _⟩
    · have hrb : (o.2.2 == (i : Int)) = false := by simpa using hr
      have HR : Hid (onW what i o = false) := by show _ = _; simp [onW, hr]
      clear hq hr
      go_enter Tryz.func92, Tryz.ntmps92
      go_wp2
      go_ret
      exact ⟨ret_bool HR.out.symm, (Below.refl _ _).alloc (Nat.le_refl _) _⟩
  · have hqb : (o.1 == what) = false := by simpa using hq
    have HR : Hid (onW what i o = false) := by show _ = _; simp [onW, hq]
    clear hq
    go_enter Tryz.func92, Tryz.ntmps92
    go_wp2
    go_ret
    exact ⟨ret_bool HR.out.symm, (Below.refl _ _).alloc (Nat.le_refl _) _⟩

/-- The place of the first op on that wire; -1, if none. -/
def widx (what : Int) (i : Nat) (l : List O3) : Int := match l.findIdx? (onW what i) with | some k => k | none => -1
theorem widx_some {what : Int} {i : Nat} {l : List O3} {k : Nat} (h : l.findIdx? (onW what i) = some k) : widx what i l = k := by unfold widx; rw [h]
theorem widx_none {what : Int} {i : Nat} {l : List O3} (h : l.findIdx? (onW what i) = none) : widx what i l = -1 := by unfold widx; rw [h]
theorem widx_any (what : Int) (i : Nat) (l : List O3) : decide (widx what i l ≥ 0) = l.any (onW what i) := by
  cases h : l.findIdx? (onW what i) with
  | none =>
    rw [widx_none h]
    rw [List.findIdx?_eq_none_iff] at h
    symm
    simpa using h
  | some k =>
    rw [widx_some h]
    have : (l.findIdx? (onW what i)).isSome = true := by rw [h]; rfl
    rw [List.findIdx?_isSome] at this
    rw [this]
    simp

set_option maxRecDepth 100000 in
set_option maxHeartbeats 2000000 in
theorem indexOn_some (what : Int) (wi : Nat) (l : List O3) (b off cap wb ib : Nat) (w : World) (hw1 : w.cell? ⟨wb, 0, none⟩ = some (.int .i64 what)) (hw2 : w.cell? ⟨ib, 0, none⟩ = some (.int .i64 wi)) (hlen : l.length ≤ 20) (hlt : b < w.heap.size)
    (hc : ∀ (i : Nat) o, l[i]? = some o → w.cell? ⟨b, off + i * 3, none⟩ = some (.int .i64 o.1) ∧ w.cell? ⟨b, off + i * 3 + 1, none⟩ = some (.int .i64 o.2.1) ∧ w.cell? ⟨b, off + i * 3 + 2, none⟩ = some (.int .i64 o.2.2)) :
    Calls Tryz.prog 69 #[.slice (some ⟨b, off, none⟩) l.length cap, .func (.func 92) #[] #[.pointer (some ⟨wb, 0, none⟩), .pointer (some ⟨ib, 0, none⟩)]] w fun e w' =>
      e = .returned (.int .i64 (widx what wi l)) ∧ Below w.heap.size w w' := by
  have hl1 := lt_of_cell hw1
  have hl2 := lt_of_cell hw2
  go_enter Tryz.func69, Tryz.ntmps69
  go_wp2
  go_loopw [8] (fun i wr => ∃ k : Nat, k ≤ l.length ∧ i = .int .i64 k ∧ (∀ (j : Nat) x, j < k → l[j]? = some x → onW what wi x = false) ∧ Below w.heap.size w wr) (fun i _ => l.length - (intOf i).toNat)
  case atStart => exact ⟨0, Nat.zero_le _, rfl, fun j x hj => by omega, Below.refl _ _⟩
  case round =>
    obtain ⟨k, hk, rfl, hall, hb⟩ := hrel
    have e1 : wr.cell? ⟨wb, 0, none⟩ = some (.int .i64 what) := (hb.cell (p := ⟨wb, 0, none⟩) hl1).trans hw1
    have e2 : wr.cell? ⟨ib, 0, none⟩ = some (.int .i64 wi) := (hb.cell (p := ⟨ib, 0, none⟩) hl2).trans hw2
    have Hall : Hid (∀ (j : Nat) x, j < k → l[j]? = some x → onW what wi x = false) := hall
    clear hall
    by_cases hkl : k < l.length
    · obtain ⟨o, ho⟩ : ∃ o, l[k]? = some o := ⟨l[k], List.getElem?_eq_getElem hkl⟩
      have HO : Hid (l[k]? = some o) := ho
      obtain ⟨c0, c1, c2⟩ := hc k o ho
      clear ho
      have d0 : wr.cell? ⟨b, off + k * 3, none⟩ = some (.int .i64 o.1) := (hb.cell (p := ⟨b, _, none⟩) hlt).trans c0
      have d1 : wr.cell? ⟨b, off + k * 3 + 1, none⟩ = some (.int .i64 o.2.1) := (hb.cell (p := ⟨b, _, none⟩) hlt).trans c1
      have d2 : wr.cell? ⟨b, off + k * 3 + 2, none⟩ = some (.int .i64 o.2.2) := (hb.cell (p := ⟨b, _, none⟩) hlt).trans c2
      clear c0 c1 c2
      have hon := on_any o wb ib what wi wr e1 e2
      clear e1 e2
      cases hok : onW what wi o with
      | false =>
        have HN : Hid (onW what wi o = false) := hok
        rw [hok] at hon
        clear hok
        go_wp2_with (go_at_call 92; refine hon.mono ?_; rintro e w1 ⟨rfl, b1⟩; clear hon)
        go_roundw
        case rel =>
          refine ⟨k + 1, by omega, by go_num, fun j x hj hx => ?_, hb.trans (b1.mono hb.size)⟩
          by_cases hjk : j < k
          · exact Hall.out j x hjk hx
          · obtain rfl : j = k := by omega
            rw [HO.out] at hx
            obtain rfl := Option.some.inj hx
            exact HN.out
        case measure => simp [intOf]; omega
      | true =>
        have HF : Hid (l.findIdx? (onW what wi) = some k) := findIdx_hit Hall.out HO.out hok
        rw [hok] at hon
        clear hok
        go_wp2_with (go_at_call 92; refine hon.mono ?_; rintro e w1 ⟨rfl, b1⟩; clear hon)
        go_ret
        exact ⟨ret_int (widx_some HF.out).symm, hb.trans (b1.mono hb.size)⟩
    · have HF : Hid (l.findIdx? (onW what wi) = none) := findIdx_miss (fun i x hi hx => Hall.out i x (by omega) hx)
      clear e1 e2
      go_wp2
      go_ret
      exact ⟨ret_int (widx_none HF.out).symm, hb⟩

set_option maxRecDepth 100000 in
set_option maxHeartbeats 2000000 in
theorem contains_some (what : Int) (wi : Nat) (l : List O3) (b off cap wb ib : Nat) (w : World) (hw1 : w.cell? ⟨wb, 0, none⟩ = some (.int .i64 what)) (hw2 : w.cell? ⟨ib, 0, none⟩ = some (.int .i64 wi)) (hlen : l.length ≤ 20) (hlt : b < w.heap.size)
    (hc : ∀ (i : Nat) o, l[i]? = some o → w.cell? ⟨b, off + i * 3, none⟩ = some (.int .i64 o.1) ∧ w.cell? ⟨b, off + i * 3 + 1, none⟩ = some (.int .i64 o.2.1) ∧ w.cell? ⟨b, off + i * 3 + 2, none⟩ = some (.int .i64 o.2.2)) :
    Calls Tryz.prog 91 #[.slice (some ⟨b, off, none⟩) l.length cap, .func (.func 92) #[] #[.pointer (some ⟨wb, 0, none⟩), .pointer (some ⟨ib, 0, none⟩)]] w fun e w' =>
      e = .returned (.bool (l.any (onW what wi))) ∧ Below w.heap.size w w' := by
  have hI := indexOn_some what wi l b off cap wb ib w hw1 hw2 hlen hlt hc
  have HA : Hid (decide (widx what wi l ≥ 0) = l.any (onW what wi)) := widx_any what wi l
  obtain ⟨x, hx⟩ : ∃ x, x = widx what wi l := ⟨_, rfl⟩
  rw [← hx] at hI HA
  clear hx hw1 hw2 hc
  go_enter Tryz.func91, Tryz.ntmps91
  go_wp2_with (go_at_call 69; refine hI.mono ?_; rintro e w1 ⟨rfl, b1⟩; clear hI)
  go_ret
  exact ⟨ret_bool HA.out, b1⟩

set_option maxRecDepth 1000000 in
set_option maxHeartbeats 4000000 in
theorem wiresOf_some (what : Int) (l : List O3) (b off cap : Nat) (w : World) (hlen : l.length ≤ 20) (hlt : b < w.heap.size)
    (hc : ∀ (i : Nat) o, l[i]? = some o → w.cell? ⟨b, off + i * 3, none⟩ = some (.int .i64 o.1) ∧ w.cell? ⟨b, off + i * 3 + 1, none⟩ = some (.int .i64 o.2.1) ∧ w.cell? ⟨b, off + i * 3 + 2, none⟩ = some (.int .i64 o.2.2)) :
    Calls Tryz.prog 86 #[.slice (some ⟨b, off, none⟩) l.length cap, .int .i64 what] w fun e w' => ∃ v', e = .returned v' ∧ Ints w' v' (wiresB what l) ∧ Below w.heap.size w w' := by
  obtain ⟨ii, hi, hz0, hz1, hz2⟩ := info_parts infoIntC
  go_enter Tryz.func86, Tryz.ntmps86
  go_wp2
  go_loopw [5, 7] (fun o i wr => ∃ k : Nat, k ≤ 12 ∧ i = .int .i64 k ∧ wr.ownsRow (w.heap.size + 1) 3 1 o (pickN (fun i => l.any (onW what i)) 0 k).length ((pickN (fun i => l.any (onW what i)) 0 k).map (Value.int .i64)) ∧
      Below (w.heap.size + 1) (w.alloc (.cells #[.int .i64 what] 3)) wr) (fun _ i _ => 12 - (intOf i).toNat)
  case atStart => exact ⟨0, Nat.zero_le _, rfl, World.ownsRow_nil _ _ _ _, Below.refl _ _⟩
  case round =>
    obtain ⟨k, hk, rfl, hown, hb⟩ := hrel
    have hpl := pick_len (fun i => l.any (onW what i)) k
    have HS : Hid (pickN (fun i => l.any (onW what i)) 0 (k + 1) = if l.any (onW what k) then pickN (fun i => l.any (onW what i)) 0 k ++ [(k : Int)] else pickN (fun i => l.any (onW what i)) 0 k) := pick_snoc _ k
    obtain ⟨Z, hZ⟩ : ∃ Z, Z = pickN (fun i => l.any (onW what i)) 0 k := ⟨_, rfl⟩
    rw [← hZ] at hown hpl HS
    have HZ : Hid (Z = pickN (fun i => l.any (onW what i)) 0 k) := hZ
    clear hZ
    have hsz : w.heap.size + 1 ≤ wr.heap.size := by have := hb.size; simpa using this
    have bw : Below w.heap.size w wr := ((Below.refl _ w).alloc (Nat.le_refl _) _).trans (hb.mono (by simp))
    by_cases hk12 : k < 12
    · have hk12' : (k : Int) < 12 := by omega
      have bA : Below wr.heap.size wr (wr.alloc (.cells #[.int .i64 k] 3)) := (Below.refl _ _).alloc (Nat.le_refl _) _
      have bwA : Below w.heap.size w (wr.alloc (.cells #[.int .i64 k] 3)) := bw.trans (bA.mono (by omega))
      have x1 : (wr.alloc (.cells #[.int .i64 k] 3)).cell? ⟨w.heap.size, 0, none⟩ = some (.int .i64 what) := (bA.cell (p := ⟨w.heap.size, 0, none⟩) (by simp; omega)).trans ((hb.cell (p := ⟨w.heap.size, 0, none⟩) (by simp)).trans (by simp))
      have x2 : (wr.alloc (.cells #[.int .i64 k] 3)).cell? ⟨wr.heap.size, 0, none⟩ = some (.int .i64 k) := by simp
      have hcon := contains_some what k l b off cap w.heap.size wr.heap.size _ x1 x2 hlen (Nat.lt_of_lt_of_le hlt bwA.size) (fun i o ho => by
        obtain ⟨c0, c1, c2⟩ := hc i o ho
        exact ⟨(bwA.cell (p := ⟨b, _, none⟩) hlt).trans c0, (bwA.cell (p := ⟨b, _, none⟩) hlt).trans c1, (bwA.cell (p := ⟨b, _, none⟩) hlt).trans c2⟩)
      clear x1 hc
      cases hany : l.any (onW what k) with
      | false =>
        rw [hany] at hcon HS
        have HP : Hid (pickN (fun i => l.any (onW what i)) 0 (k + 1) = Z) := by show _ = _; simpa using HS.out
        clear HS hany x2
        go_wp2_with (go_at_call 91; refine hcon.mono ?_; rintro e w2 ⟨rfl, b2⟩; clear hcon)
        go_roundw
        case rel => exact ⟨k + 1, by omega, by go_num, by rw [HP.out]; exact own_all (hown.alloc _) b2, (hb.trans (bA.mono hsz)).trans (b2.mono (by simp; omega))⟩
        case measure => simp [intOf]; omega
      | true =>
        rw [hany] at hcon HS
        have HP : Hid (pickN (fun i => l.any (onW what i)) 0 (k + 1) = Z ++ [(k : Int)]) := by show _ = _; simpa using HS.out
        clear HS hany
        go_wp2_with (first | (go_at_call 91; refine hcon.mono ?_; rintro e w2 ⟨rfl, b2⟩; have hown2 := own_all (hown.alloc _) b2; have hb2 := (hb.trans (bA.mono hsz)).trans (b2.mono (by simp; omega)); have y2 := (b2.cell (p := ⟨wr.heap.size, 0, none⟩) (by simp)).trans x2; clear hcon hown x2) | (at_builtin; refine wpList_append_own _ rfl _ _ 28 rfl (w.heap.size + 1) 3 ii (.int .i64 0) 1 8 Tryz.underlying28 hi hz0 hz1 hz2 rfl (by decide) _ _ _ rfl (hown2.alloc _) ⟨w2.heap.size, 0, none⟩ 1 1 [.int .i64 k] rfl rfl ?c1A ?c2A ?c3A ?c4A ?c5A ?_))
        case c1A =>
          intro j u hj
          match j, hj with
          | 0, hj => simp at hj; subst hj; simp [Addr.add]
        case c2A => intro u hu; simp at hu; subst hu; rfl
        case c3A => unfold maxLen; omega
        case c4A => omega
        case c5A => have := b2.size; simp at this; simp; omega
        intro v' w3 hown' hgrow _
        have hsz2 : w.heap.size + 1 ≤ w2.heap.size := by have := b2.size; simp at this; omega
        have hb3 : Below (w.heap.size + 1) (w.alloc (.cells #[.int .i64 what] 3)) w3 := (hb2.alloc hsz2 _).grown hgrow (by simp; omega) (fun j hj => (hown2.lt j hj).1)
        have R : w3.ownsRow (w.heap.size + 1) 3 1 v' (Z ++ [(k : Int)]).length ((Z ++ [(k : Int)]).map (Value.int .i64)) := by simpa using hown'
        clear hown' hgrow hown2 y2
        go_wp2
        go_roundw
        case rel => exact ⟨k + 1, by omega, by go_num, by rw [HP.out]; exact R, hb3⟩
        case measure => simp [intOf]; omega
    · have hke : k = 12 := by omega
      subst hke
      have HP : Hid (Z = wiresB what l) := HZ.out
      have hv := ints_of_own hown
      obtain ⟨g, n', cap', rfl⟩ := slice_form hown
      clear hown
      go_wp2
      go_ret
      exact ⟨_, rfl, by rw [← HP.out]; exact hv, bw⟩

end Go.Proofs.YtfconbblnmbnpagGreatDoor
namespace Go.Proofs.YtfconbblnmbnpagGreatDoor
open Go.RowKit

set_option maxRecDepth 1000000 in
set_option maxHeartbeats 400000 in
theorem wires_some (l : List O3) (b off cap : Nat) (w : World) (hf : Forms w) (hk0 : (chk l).2 = 0) (hlt : b < w.heap.size)
    (hc : ∀ (i : Nat) o, l[i]? = some o → w.cell? ⟨b, off + i * 3, none⟩ = some (.int .i64 o.1) ∧ w.cell? ⟨b, off + i * 3 + 1, none⟩ = some (.int .i64 o.2.1) ∧ w.cell? ⟨b, off + i * 3 + 2, none⟩ = some (.int .i64 o.2.2)) :
    Calls Tryz.prog 70 #[.slice (some ⟨b, off, none⟩) l.length cap] w fun e w' => ∃ x y, e = .returned (.tuple #[x, y, .nilIface]) ∧ Ints w' x (wiresB 8 l) ∧ Ints w' y (wiresB 9 l) ∧ Below w.heap.size w w' := by
  obtain ⟨hz0, hz1, hz2⟩ := chk_zero hk0
  have hck := check_any (.slice (some ⟨b, off, none⟩) l.length cap) l w hf (Or.inr ⟨b, off, cap, rfl, hlt, hc⟩)
  rw [chk_fst hk0, show errV (0, (0 : Int)).2 = .nilIface from rfl] at hck
  have hwo := fun what W (bW : Below w.heap.size w W) => wiresOf_some what l b off cap W (by omega) (Nat.lt_of_lt_of_le hlt bW.size) (fun i o ho => by
    obtain ⟨c0, c1, c2⟩ := hc i o ho
    exact ⟨(bW.cell (p := ⟨b, _, none⟩) hlt).trans c0, (bW.cell (p := ⟨b, _, none⟩) hlt).trans c1, (bW.cell (p := ⟨b, _, none⟩) hlt).trans c2⟩)
  have hw8 := hwo 8
  have hw9 := hwo 9
  clear hc hk0 hz0 hz2 hwo
  go_enter Tryz.func70, Tryz.ntmps70
  go_wp2_with (first | (go_at_call 50; refine hck.mono ?_; rintro e w1 ⟨rfl, b1⟩; clear hck) | (go_at_call 86; refine (hw8 _ b1).mono ?_; rintro e w2 ⟨x, rfl, ix, b2⟩; have b12 := b1.trans (b2.mono b1.size); clear hw8) | (go_at_call 86; refine (hw9 _ b12).mono ?_; rintro e w3 ⟨y, rfl, iy, b3⟩; clear hw9))
  go_ret3
  exact ⟨x, y, rfl, ints_all ix b3, iy, b12.trans (b3.mono b12.size)⟩
/-- The wires, where nothing is wrong. -/
theorem wires_good (v : Value) (l : List O3) (w : World) (hf : Forms w) (h : Ops w v l) (hk0 : (chk l).2 = 0) :
    Calls Tryz.prog 70 #[v] w fun e w' => ∃ x y, e = .returned (.tuple #[x, y, .nilIface]) ∧ Ints w' x (wiresB 8 l) ∧ Ints w' y (wiresB 9 l) ∧ Below w.heap.size w w' := by
  rcases h with ⟨rfl, ao, cap, rfl⟩ | ⟨b, off, cap, rfl, hlt, hc⟩
  · exact absurd hk0 (by decide)
  · exact wires_some l b off cap w hf hk0 hlt hc
set_option maxRecDepth 1000000 in
set_option maxHeartbeats 400000 in
theorem wires_fault (v : Value) (l : List O3) (w : World) (hf : Forms w) (h : Ops w v l) (hk0 : (chk l).2 ≠ 0) :
    Calls Tryz.prog 70 #[v] w fun e w' => e = .returned (.tuple #[.slice none 0 0, .slice none 0 0, errV (chk l).2]) ∧ Below w.heap.size w w' := by
  have hck := check_any v l w hf h
  have he : errV (chk l).2 = .iface 64 (.int .i64 (chk l).2) := by unfold errV; rw [if_neg hk0]
  rw [he] at hck ⊢
  obtain ⟨ao, cap, rfl⟩ := h.form
  clear he hk0 h
  go_enter Tryz.func70, Tryz.ntmps70
  go_wp2_with (go_at_call 50; refine hck.mono ?_; rintro e w1 ⟨rfl, b1⟩; clear hck)
  go_ret3
  exact ⟨rfl, b1⟩
end Go.Proofs.YtfconbblnmbnpagGreatDoor
namespace Go.Proofs.YtfconbblnmbnpagGreatDoor
open Go.RowKit

set_option maxRecDepth 100000 in
set_option maxHeartbeats 1000000 in
theorem refframe_ticks (n : Int) (v : Value) (w : World) (h : n < 1 ∨ 40 < n) :
    Calls Tryz.prog 13 #[.int .i64 n, v] w fun e w' => e = .returned (.tuple #[.int .i64 0, .int .i64 1]) ∧ Below w.heap.size w w' := by
  by_cases h1 : n < 1
  · go_enter Tryz.func13, Tryz.ntmps13
    go_wp2
    go_ret2
    exact ⟨rfl, Below.refl _ _⟩
  · have h1' : decide (n < 1) = false := by simpa using h1
    have h2 : 40 < n := by omega
    go_enter Tryz.func13, Tryz.ntmps13
    go_wp2
    go_ret2
    exact ⟨rfl, Below.refl _ _⟩
set_option maxRecDepth 100000 in
set_option maxHeartbeats 1000000 in
theorem refframe_long (n : Int) (ao : Option Addr) (m cap : Nat) (w : World) (h1 : ¬ n < 1) (h2 : ¬ 40 < n) (hm : 12 < m) :
    Calls Tryz.prog 13 #[.int .i64 n, .slice ao m cap] w fun e w' => e = .returned (.tuple #[.int .i64 0, .int .i64 4]) ∧ Below w.heap.size w w' := by
  have h1' : decide (n < 1) = false := by simpa using h1
  have h2' : decide (40 < n) = false := by simpa using h2
  go_enter Tryz.func13, Tryz.ntmps13
  go_wp2
  go_ret2
  exact ⟨rfl, Below.refl _ _⟩
set_option maxRecDepth 100000 in
set_option maxHeartbeats 1000000 in
theorem refframe_nil (n : Int) (ao : Option Addr) (cap : Nat) (w : World) (h1 : ¬ n < 1) (h2 : ¬ 40 < n) :
    Calls Tryz.prog 13 #[.int .i64 n, .slice ao 0 cap] w fun e w' => e = .returned (.tuple #[.int .i64 0, .int .i64 0]) ∧ Below w.heap.size w w' := by
  have h1' : decide (n < 1) = false := by simpa using h1
  have h2' : decide (40 < n) = false := by simpa using h2
  go_enter Tryz.func13, Tryz.ntmps13
  go_wp2
  refine wp_loop_rounds 1 ?_
  rw [rounds_succ]
  go_wp2
  go_ret2
  exact ⟨rfl, Below.refl _ _⟩
theorem any_take {α : Type} {p : α → Bool} {l : List α} {k : Nat} {o : α} (h : l[k]? = some o) : (l.take (k + 1)).any p = ((l.take k).any p || p o) := by
  obtain ⟨hk, rfl⟩ := List.getElem?_eq_some_iff.1 h
  rw [List.take_succ_eq_append_getElem hk, List.any_append]
  simp
theorem ret_two_f {a b c d : Int} (h : (a, b) = (c, d)) : Ending.returned (.tuple #[.int .i64 c, .int .i64 d]) = .returned (.tuple #[.int .i64 a, .int .i64 b]) := by
  simp only [Prod.mk.injEq] at h
  rw [h.1, h.2]

set_option maxRecDepth 1000000 in
set_option maxHeartbeats 8000000 in
theorem refframe_mid (n : Int) (l : List S3) (b off cap : Nat) (w : World) (h1 : ¬ n < 1) (h2 : ¬ 40 < n) (hl : ¬ 12 < l.length) (hlt : b < w.heap.size) (hc : SpC w b off l) :
    Calls Tryz.prog 13 #[.int .i64 n, .slice (some ⟨b, off, none⟩) l.length cap] w fun e w' => e = .returned (.tuple #[.int .i64 (scan (badAt n l) l.length 0).1, .int .i64 (scan (badAt n l) l.length 0).2]) ∧ Below w.heap.size w w' := by
  have h1' : decide (n < 1) = false := by simpa using h1
  have h2' : decide (40 < n) = false := by simpa using h2
  have h3' : decide (12 < l.length) = false := by simpa using hl
  obtain ⟨R, hR⟩ : ∃ R, R = scan (badAt n l) l.length 0 := ⟨_, rfl⟩
  rw [← hR]
  have HR : Hid (R = scan (badAt n l) l.length 0) := hR
  clear hR
  go_enter Tryz.func13, Tryz.ntmps13
  go_wp2
  go_loopw [6] (fun i wr => ∃ k : Nat, k ≤ l.length ∧ i = .int .i64 k ∧ Hid (scan (badAt n l) l.length 0 = scan (badAt n l) (l.length - k) k) ∧ Below w.heap.size w wr) (fun i _ => l.length - (intOf i).toNat)
  case atStart => exact ⟨0, Nat.zero_le _, rfl, rfl, Below.refl _ _⟩
  case round =>
    rename World => wo
    obtain ⟨k, hk, rfl, HS, hb⟩ := hrel
    by_cases hkl : k < l.length
    · obtain ⟨o, ho⟩ : ∃ o, l[k]? = some o := ⟨l[k], List.getElem?_eq_getElem hkl⟩
      have HO : Hid (l[k]? = some o) := ho
      obtain ⟨c0, c1, c2⟩ := hc.below hb hlt k o ho
      clear ho
      have hki : (k : Int) < (l.length : Int) := by omega
      have bA : Below wo.heap.size wo (wo.alloc (.cells #[.int .i64 o.1, .int .i64 o.2.1, .int .i64 o.2.2] 58)) := (Below.refl _ _).alloc (Nat.le_refl _) _
      have hbA := hb.trans (bA.mono hb.size)
      by_cases hok : spOk n o = true
      · have HK : Hid (spOk n o = true) := hok
        have hok2 : 0 ≤ o.1 ∧ o.1 < o.2.1 ∧ o.2.1 ≤ n ∧ 0 ≤ o.2.2 ∧ o.2.2 < 5 := by simpa [spOk] using hok
        obtain ⟨p1, p2, p3, p4, p5⟩ := hok2
        have q1 : decide (o.1 < 0) = false := by simp; omega
        have q2 : decide (o.2.1 ≤ o.1) = false := by simp; omega
        have q3 : decide (n < o.2.1) = false := by simp; omega
        have q4 : decide (o.2.2 < 0) = false := by simp; omega
        have q5 : decide (4 < o.2.2) = false := by simp; omega
        clear hok p1 p2 p3 p4 p5
        go_wp2
        have HB : Hid (Below wo.heap.size wo (wo.alloc (.cells #[.int .i64 o.1, .int .i64 o.2.1, .int .i64 o.2.2] 58))) := bA
        have HC : Hid (SpC wo b off l) := hc.below hb hlt
        have hlt' : b < wo.heap.size := Nat.lt_of_lt_of_le hlt hb.size
        clear c0 c1 c2 bA q1 q2 q3 q4 q5
        go_loopw [8] (fun i wx => ∃ j : Nat, j ≤ k ∧ i = .int .i64 j ∧ Hid ((l.take j).any (clashB o) = false) ∧ Below (wo.heap.size + 1) (wo.alloc (.cells #[.int .i64 o.1, .int .i64 o.2.1, .int .i64 o.2.2] 58)) wx) (fun i _ => k - (intOf i).toNat)
        case atStart => exact ⟨0, Nat.zero_le _, rfl, by show _ = _; simp, Below.refl _ _⟩
        case round =>
          obtain ⟨j, hj, rfl, HJ, hx⟩ := hrel
          have hbx : Below w.heap.size w wr := hbA.trans (hx.mono (by have := hb.size; omega))
          by_cases hjk : j < k
          · obtain ⟨p, hp⟩ : ∃ p, l[j]? = some p := ⟨l[j]'(by omega), List.getElem?_eq_getElem (by omega)⟩
            have HP : Hid (l[j]? = some p) := hp
            obtain ⟨c0, c1, c2⟩ := ((HC.out.below HB.out hlt').below hx (by omega)) j p hp
            clear hp
            have k0 : wr.cell? ⟨wo.heap.size, 0, none⟩ = some (.int .i64 o.1) := (hx.cell (p := ⟨wo.heap.size, 0, none⟩) (by simp)).trans (by simp)
            have k1 : wr.cell? ⟨wo.heap.size, 1, none⟩ = some (.int .i64 o.2.1) := (hx.cell (p := ⟨wo.heap.size, 1, none⟩) (by simp)).trans (by simp)
            have hji : (j : Int) < (k : Int) := by omega
            have hjl : (j : Int) < (l.length : Int) := by omega
            by_cases g1 : p.1 < o.2.1
            · have g1' : decide (p.1 < o.2.1) = true := by simpa using g1
              by_cases g2 : o.1 < p.2.1
              · have g2' : decide (o.1 < p.2.1) = true := by simpa using g2
                have HF : Hid (R = ((k : Int), 7)) := by
                  have han : (l.take k).any (clashB o) = true := by
                    rw [List.any_eq_true]
                    exact ⟨p, List.mem_take_iff_getElem.2 ⟨j, by omega, (List.getElem?_eq_some_iff.1 HP.out).2⟩, by simp [clashB, g1, g2]⟩
                  have e := badOf_clash HK.out han
                  show _ = _
                  rw [HR.out, scan_hit hkl HS.out (by rw [badAt_some HO.out, e]; decide), badAt_some HO.out, e]
                clear HJ
                go_wp2
                go_quiet (fail)
                go_wp2
                go_ret2
                rw [HF.out]
                exact ⟨rfl, below_drewN hbx _⟩
              · have g2' : decide (o.1 < p.2.1) = false := by simpa using g2
                have HF : Hid ((l.take (j + 1)).any (clashB o) = false) := by
                  show _ = _
                  rw [any_take HP.out, HJ.out]
                  simp [clashB, g2]
                clear HJ
                go_wp2
                go_quiet (fail)
                go_wp2
                go_roundw
                case rel => exact ⟨j + 1, by omega, by go_num, HF.out, below_drewN hx _⟩
                case measure => simp [intOf]; omega
            · have g1' : decide (p.1 < o.2.1) = false := by simpa using g1
              have HF : Hid ((l.take (j + 1)).any (clashB o) = false) := by
                show _ = _
                rw [any_take HP.out, HJ.out]
                simp [clashB, g1]
              clear HJ
              go_wp2
              go_quiet (fail)
              go_wp2
              go_roundw
              case rel => exact ⟨j + 1, by omega, by go_num, HF.out, below_drewN hx _⟩
              case measure => simp [intOf]; omega
          · obtain rfl : j = k := by omega
            have HF : Hid (scan (badAt n l) l.length 0 = scan (badAt n l) (l.length - (j + 1)) (j + 1)) := by
              show _ = _
              exact scan_next hkl HS.out (by rw [badAt_some HO.out]; exact badOf_none HK.out HJ.out)
            clear HS HJ
            go_wp2
            go_roundw
            case rel => exact ⟨j + 1, by omega, by go_num, HF.out, hbx⟩
            case measure => simp [intOf]; omega
      · have hok' : spOk n o = false := by simpa using hok
        have HF : Hid (R = ((k : Int), 1)) := by
          have e := badOf_range (l := l.take k) hok'
          show _ = _
          rw [HR.out, scan_hit hkl HS.out (by rw [badAt_some HO.out, e]; decide), badAt_some HO.out, e]
        have hno : ¬ (0 ≤ o.1 ∧ o.1 < o.2.1 ∧ o.2.1 ≤ n ∧ 0 ≤ o.2.2 ∧ o.2.2 < 5) := by simpa [spOk] using hok
        clear hok hok' HS HR
        by_cases p1 : o.1 < 0
        · go_wp2
          go_ret2
          rw [HF.out]
          exact ⟨rfl, hbA⟩
        have q1 : decide (o.1 < 0) = false := by simpa using p1
        by_cases p2 : o.2.1 ≤ o.1
        · go_wp2
          go_ret2
          rw [HF.out]
          exact ⟨rfl, hbA⟩
        have q2 : decide (o.2.1 ≤ o.1) = false := by simpa using p2
        by_cases p3 : n < o.2.1
        · go_wp2
          go_ret2
          rw [HF.out]
          exact ⟨rfl, hbA⟩
        have q3 : decide (n < o.2.1) = false := by simpa using p3
        by_cases p4 : o.2.2 < 0
        · go_wp2
          go_ret2
          rw [HF.out]
          exact ⟨rfl, hbA⟩
        have q4 : decide (o.2.2 < 0) = false := by simpa using p4
        have p5 : 4 < o.2.2 := by omega
        go_wp2
        go_ret2
        rw [HF.out]
        exact ⟨rfl, hbA⟩
    · obtain rfl : k = l.length := by omega
      have HF : Hid (R = (0, 0)) := by
        show _ = _
        rw [HR.out]
        exact scan_end HS.out
      clear HS
      go_wp2
      go_ret2
      rw [HF.out]
      exact ⟨rfl, hb⟩
theorem refframe_any (n : Int) (l : List S3) (v : Value) (w : World) (hl : Sps w v l) :
    Calls Tryz.prog 13 #[.int .i64 n, v] w fun e w' => e = .returned (.tuple #[.int .i64 (fchk n l).1, .int .i64 (fchk n l).2]) ∧ Below w.heap.size w w' := by
  by_cases h1 : n < 1 ∨ 40 < n
  · rw [fchk_lo h1]
    exact refframe_ticks n v w h1
  rcases hl with ⟨rfl, ao, cap, rfl⟩ | ⟨b, off, cap, rfl, hcap, hlt, hc⟩
  · rw [fchk_mid h1 (by simp)]
    exact refframe_nil n ao cap w (by omega) (by omega)
  · by_cases h2 : 12 < l.length
    · rw [fchk_long h1 h2]
      exact refframe_long n _ _ cap w (by omega) (by omega) h2
    · rw [fchk_mid h1 h2]
      exact refframe_mid n l b off cap w (by omega) (by omega) h2 hlt hc
end Go.Proofs.YtfconbblnmbnpagGreatDoor
