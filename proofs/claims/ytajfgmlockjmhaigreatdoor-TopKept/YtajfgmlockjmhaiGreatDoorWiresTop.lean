/-
  code.Wires: the wires that code sends on, and takes from.
-/
import Derived.Test.YtajfgmlockjmhaiGreatDoorJt12
import Derived.OwnWalk
namespace Go.Proofs.YtajfgmlockjmhaiGreatDoor
open Go.RowKit

set_option maxRecDepth 1000000 in
set_option maxHeartbeats 400000 in
theorem wires_some (l : List O3) (b off cap : Nat) (w : World) (hf : Forms w) (hk0 : (chk l).2 = 0) (hlt : b < w.heap.size)
    (hc : ∀ (i : Nat) o, l[i]? = some o → w.cell? ⟨b, off + i * 3, none⟩ = some (.int .i64 o.1) ∧ w.cell? ⟨b, off + i * 3 + 1, none⟩ = some (.int .i64 o.2.1) ∧ w.cell? ⟨b, off + i * 3 + 2, none⟩ = some (.int .i64 o.2.2)) :
    Calls Tryz.prog 140 #[.slice (some ⟨b, off, none⟩) l.length cap] w fun e w' => ∃ x y, e = .returned (.tuple #[x, y, .nilIface]) ∧ Ints w' x (wiresB 8 l) ∧ Ints w' y (wiresB 9 l) ∧ Below w.heap.size w w' := by
  obtain ⟨hz0, hz1, hz2⟩ := chk_zero hk0
  have hck := check_any (.slice (some ⟨b, off, none⟩) l.length cap) l w hf (Or.inr ⟨b, off, cap, rfl, hlt, hc⟩)
  rw [chk_fst hk0, show errV (0, (0 : Int)).2 = .nilIface from rfl] at hck
  have hwo := fun what W (bW : Below w.heap.size w W) => wiresOf_some what l b off cap W (by omega) (Nat.lt_of_lt_of_le hlt bW.size) (fun i o ho => by
    obtain ⟨c0, c1, c2⟩ := hc i o ho
    exact ⟨(bW.cell (p := ⟨b, _, none⟩) hlt).trans c0, (bW.cell (p := ⟨b, _, none⟩) hlt).trans c1, (bW.cell (p := ⟨b, _, none⟩) hlt).trans c2⟩)
  have hw8 := hwo 8
  have hw9 := hwo 9
  clear hc hk0 hz0 hz2 hwo
  go_enter Tryz.func140, Tryz.ntmps140
  go_wp2_with (first | (go_at_call 98; refine hck.mono ?_; rintro e w1 ⟨rfl, b1⟩; clear hck) | (go_at_call 159; refine (hw8 _ b1).mono ?_; rintro e w2 ⟨x, rfl, ix, b2⟩; have b12 := b1.trans (b2.mono b1.size); clear hw8) | (go_at_call 159; refine (hw9 _ b12).mono ?_; rintro e w3 ⟨y, rfl, iy, b3⟩; clear hw9))
  go_ret3
  exact ⟨x, y, rfl, ints_all ix b3, iy, b12.trans (b3.mono b12.size)⟩
/-- The wires, where nothing is wrong. -/
theorem wires_good (v : Value) (l : List O3) (w : World) (hf : Forms w) (h : Ops w v l) (hk0 : (chk l).2 = 0) :
    Calls Tryz.prog 140 #[v] w fun e w' => ∃ x y, e = .returned (.tuple #[x, y, .nilIface]) ∧ Ints w' x (wiresB 8 l) ∧ Ints w' y (wiresB 9 l) ∧ Below w.heap.size w w' := by
  rcases h with ⟨rfl, ao, cap, rfl⟩ | ⟨b, off, cap, rfl, hlt, hc⟩
  · exact absurd hk0 (by decide)
  · exact wires_some l b off cap w hf hk0 hlt hc
set_option maxRecDepth 1000000 in
set_option maxHeartbeats 400000 in
theorem wires_fault (v : Value) (l : List O3) (w : World) (hf : Forms w) (h : Ops w v l) (hk0 : (chk l).2 ≠ 0) :
    Calls Tryz.prog 140 #[v] w fun e w' => e = .returned (.tuple #[.slice none 0 0, .slice none 0 0, errV (chk l).2]) ∧ Below w.heap.size w w' := by
  have hck := check_any v l w hf h
  have he : errV (chk l).2 = .iface 93 (.int .i64 (chk l).2) := by unfold errV; rw [if_neg hk0]
  rw [he] at hck ⊢
  obtain ⟨ao, cap, rfl⟩ := h.form
  clear he hk0 h
  go_enter Tryz.func140, Tryz.ntmps140
  go_wp2_with (go_at_call 98; refine hck.mono ?_; rintro e w1 ⟨rfl, b1⟩; clear hck)
  go_ret3
  exact ⟨rfl, b1⟩
end Go.Proofs.YtajfgmlockjmhaiGreatDoor
