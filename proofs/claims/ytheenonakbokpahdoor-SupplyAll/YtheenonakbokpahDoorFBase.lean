/-
  What the walks of package frame ask of the world: spans that can be read; an error as a value. fits, isRoom.
-/
import Derived.Test.YtheenonakbokpahDoorRows
import Derived.Test.YtheenonakbokpahDoorFrameMath
import Derived.WalkKit
namespace Go.Proofs.YtheenonakbokpahDoor
open Go.RowKit

theorem ltc {w : World} {b o : Nat} {v : Value} (h : w.cell? ⟨b, o, none⟩ = some v) : b < w.heap.size := by
  rcases Nat.lt_or_ge b w.heap.size with h' | h'
  · exact h'
  · simp [World.cell?, Array.getElem?_eq_none h'] at h
theorem retB {a b : Bool} (h : a = b) : Ending.returned (.bool a) = .returned (.bool b) := by rw [h]
theorem retI {k : IntKind} {a b : Int} (h : a = b) : Ending.returned (.int k a) = .returned (.int k b) := by rw [h]
/-- An error as a value. -/
def fErr (e : Int) : Value := if e = 0 then .nilIface else .iface 56 (.int .i64 e)
theorem fErr_not {e : Int} (h : e ≠ 0) : fErr e = .iface 56 (.int .i64 e) := by simp [fErr, h]
/-- The cells of spans. -/
def SpC (w : World) (b off : Nat) (l : List S3) : Prop := ∀ (i : Nat) o, l[i]? = some o → w.cell? ⟨b, off + i * 3, none⟩ = some (.int .i64 o.1) ∧ w.cell? ⟨b, off + i * 3 + 1, none⟩ = some (.int .i64 o.2.1) ∧ w.cell? ⟨b, off + i * 3 + 2, none⟩ = some (.int .i64 o.2.2)
/-- Spans that can be read in the world. -/
def Sps (w : World) (v : Value) (l : List S3) : Prop :=
  (l = [] ∧ ∃ ao cap, v = .slice ao 0 cap) ∨ ∃ b off cap, v = .slice (some ⟨b, off, none⟩) l.length cap ∧ l.length ≤ cap ∧ b < w.heap.size ∧ SpC w b off l
theorem SpC.below {w w' : World} {b off B : Nat} {l : List S3} (h : SpC w b off l) (hb : Below B w w') (hlt : b < B) : SpC w' b off l := fun i o ho => by
  obtain ⟨h0, h1, h2⟩ := h i o ho
  exact ⟨(hb.cell (p := ⟨b, _, none⟩) hlt).trans h0, (hb.cell (p := ⟨b, _, none⟩) hlt).trans h1, (hb.cell (p := ⟨b, _, none⟩) hlt).trans h2⟩
theorem SpC.take {w : World} {b off : Nat} {l : List S3} (h : SpC w b off l) (k : Nat) : SpC w b off (l.take k) := fun i o ho => by
  rw [List.getElem?_take] at ho
  split at ho
  · exact h i o ho
  · cases ho
theorem Sps.all {w w' : World} {v : Value} {l : List S3} (h : Sps w v l) (hb : Below w.heap.size w w') : Sps w' v l := by
  rcases h with h | ⟨b, off, cap, rfl, hcap, hlt, hc⟩
  · exact Or.inl h
  · exact Or.inr ⟨b, off, cap, rfl, hcap, Nat.lt_of_lt_of_le hlt hb.size, hc.below hb hlt⟩
theorem Sps.form {w : World} {v : Value} {l : List S3} (h : Sps w v l) : ∃ ao cap, v = .slice ao l.length cap := by
  rcases h with ⟨rfl, ao, cap, rfl⟩ | ⟨b, off, cap, rfl, _⟩
  · exact ⟨ao, cap, rfl⟩
  · exact ⟨_, cap, rfl⟩
theorem fidx_hit {α : Type} {p : α → Bool} : ∀ {l : List α} {k : Nat} {o : α}, (∀ i x, i < k → l[i]? = some x → p x = false) → l[k]? = some o → p o = true → l.findIdx? p = some k
  | [], k, o, _, h, _ => by simp at h
  | x :: l, 0, o, _, h, hp => by simp at h; subst h; simp [List.findIdx?_cons, hp]
  | x :: l, k + 1, o, h0, h, hp => by
    have hx : p x = false := h0 0 x (by omega) rfl
    have := fidx_hit (l := l) (k := k) (o := o) (fun i y hi hy => h0 (i + 1) y (by omega) (by simpa using hy)) (by simpa using h) hp
    simp [List.findIdx?_cons, hx, this]
theorem fidx_miss {α : Type} {p : α → Bool} {l : List α} (h : ∀ (i : Nat) x, i < l.length → l[i]? = some x → p x = false) : l.findIdx? p = none := by
  rw [List.findIdx?_eq_none_iff]
  intro x hx
  obtain ⟨i, hi, rfl⟩ := List.getElem_of_mem hx
  exact h i _ hi (by simp [hi])

set_option maxRecDepth 100000 in
set_option maxHeartbeats 1000000 in
theorem isRoom_any (r : Int) (w : World) : Calls Tryd.prog 61 #[.int .i64 r] w fun e w' => e = .returned (.bool (decide (0 ≤ r) && decide (r < 5))) ∧ Below w.heap.size w w' := by
  by_cases h : 0 ≤ r
  · by_cases h2 : r < 5
    · go_enter Tryd.func61, Tryd.ntmps61
      go_wp2
      go_ret
      exact ⟨retB (by simp <;> omega), Below.refl _ _⟩
    · have h2' : decide (r < 5) = false := by simpa using h2
      go_enter Tryd.func61, Tryd.ntmps61
      go_wp2
      go_ret
      exact ⟨retB (by simp <;> omega), Below.refl _ _⟩
  · have h' : decide (0 ≤ r) = false := by simpa using h
    go_enter Tryd.func61, Tryd.ntmps61
    go_wp2
    go_ret
    exact ⟨retB (by simp <;> omega), Below.refl _ _⟩

set_option maxRecDepth 100000 in
set_option maxHeartbeats 1000000 in
theorem ffits_any (s : S3) (n : Int) (w : World) : Calls Tryd.prog 44 #[.agg #[.int .i64 s.1, .int .i64 s.2.1, .int .i64 s.2.2], .int .i64 n] w fun e w' => e = .returned (.bool (spOk n s)) ∧ Below w.heap.size w w' := by
  obtain ⟨a, b, r⟩ := s
  simp only
  have hr := fun W => isRoom_any r W
  by_cases h1 : 0 ≤ a
  · by_cases h2 : a < b
    · by_cases h3 : b ≤ n
      · have HF : Hid (spOk n (a, b, r) = (decide (0 ≤ r) && decide (r < 5))) := by show _ = _; simp [spOk, h1, h2, h3]
        go_enter Tryd.func44, Tryd.ntmps44
        go_wp2_with (go_at_call 61; refine (hr _).mono ?_; rintro e w1 ⟨rfl, b1⟩; clear hr)
        go_ret
        exact ⟨retB HF.out.symm, ((Below.refl _ _).alloc (Nat.le_refl _) _).trans (b1.mono (by simp))⟩
      · have h3' : decide (b ≤ n) = false := by simpa using h3
        have HF : Hid (spOk n (a, b, r) = false) := by show _ = _; simp [spOk, h3]
        clear hr
        go_enter Tryd.func44, Tryd.ntmps44
        go_wp2
        go_ret
        exact ⟨retB HF.out.symm, (Below.refl _ _).alloc (Nat.le_refl _) _⟩
    · have h2' : decide (a < b) = false := by simpa using h2
      have HF : Hid (spOk n (a, b, r) = false) := by show _ = _; simp [spOk, h2]
      clear hr
      go_enter Tryd.func44, Tryd.ntmps44
      go_wp2
      go_ret
      exact ⟨retB HF.out.symm, (Below.refl _ _).alloc (Nat.le_refl _) _⟩
  · have h1' : decide (0 ≤ a) = false := by simpa using h1
    have HF : Hid (spOk n (a, b, r) = false) := by show _ = _; simp [spOk, h1]
    clear hr
    go_enter Tryd.func44, Tryd.ntmps44
    go_wp2
    go_ret
    exact ⟨retB HF.out.symm, (Below.refl _ _).alloc (Nat.le_refl _) _⟩
end Go.Proofs.YtheenonakbokpahDoor
