/-
  Steps that came in.
-/
import Derived.Test.YtfconbblnmbnpabEBase
namespace Go.Proofs.Ytfconbblnmbnpab
open Go.RowKit

/-- Steps that came in. -/
def Stp (w : World) (v : Value) (l : List Int) : Prop := (l = [] ∧ ∃ ao cap, v = .slice ao 0 cap) ∨ ∃ b off cap, v = .slice (some ⟨b, off, none⟩) l.length cap ∧ b < w.heap.size ∧ ∀ (i : Nat) x, l[i]? = some x → w.cell? ⟨b, off + i, none⟩ = some (.int .i64 x)
theorem Stp.form {w : World} {v : Value} {l : List Int} (h : Stp w v l) : ∃ ao cap, v = .slice ao l.length cap := by
  rcases h with ⟨rfl, ao, cap, rfl⟩ | ⟨b, off, cap, rfl, _⟩
  · exact ⟨ao, cap, rfl⟩
  · exact ⟨_, cap, rfl⟩
theorem Stp.at {w wr : World} {ao : Option Addr} {cap : Nat} {l : List Int} (h : Stp w (.slice ao l.length cap) l) (hb : Below w.heap.size w wr) {i : Nat} (hi : i < l.length) : ∃ b off x, ao = some ⟨b, off, none⟩ ∧ wr.cell? ⟨b, off + i, none⟩ = some (.int .i64 x) ∧ l[i]? = some x := by
  rcases h with ⟨rfl, _⟩ | ⟨b, off, cap', e, hlt, hc⟩
  · simp at hi
  · injection e with e1
    exact ⟨b, off, l[i], e1, (hb.cell (p := ⟨b, _, none⟩) hlt).trans (hc i _ (List.getElem?_eq_getElem hi)), List.getElem?_eq_getElem hi⟩
theorem Stp.at0 {w : World} {ao : Option Addr} {cap : Nat} {l : List Int} (h : Stp w (.slice ao l.length cap) l) {i : Nat} (hi : i < l.length) : ∃ b off x, ao = some ⟨b, off, none⟩ ∧ b < w.heap.size ∧ w.cell? ⟨b, off + i, none⟩ = some (.int .i64 x) := by
  rcases h with ⟨rfl, _⟩ | ⟨b, off, cap', e, hlt, hc⟩
  · simp at hi
  · injection e with e1
    exact ⟨b, off, l[i], e1, hlt, hc i _ (List.getElem?_eq_getElem hi)⟩
theorem Stp.every {w w' : World} {v : Value} {l : List Int} (h : Stp w v l) (hb : Below w.heap.size w w') : Stp w' v l := by
  rcases h with h | ⟨b, off, cap, rfl, hlt, hc⟩
  · exact Or.inl h
  · exact Or.inr ⟨b, off, cap, rfl, Nat.lt_of_lt_of_le hlt hb.size, fun i x hx => (hb.cell (p := ⟨b, _, none⟩) hlt).trans (hc i x hx)⟩
end Go.Proofs.Ytfconbblnmbnpab
