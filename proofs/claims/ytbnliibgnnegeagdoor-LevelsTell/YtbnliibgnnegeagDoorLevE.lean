/-
  What package levels answers, plain.
-/
import Derived.Test.YtbnliibgnnegeagDoorLevM
import Derived.Test.YtbnliibgnnegeagDoorFlowBase
import Derived.Test.YtbnliibgnnegeagDoorStsL
namespace Go.Proofs.YtbnliibgnnegeagDoor
open Go.RowKit

/-- Levels of all rooms. -/
def levs (l : List W4) : List Int := [(lev l 0 : Int), (lev l 1 : Int), (lev l 2 : Int), (lev l 3 : Int), (lev l 4 : Int)]
def levsE (l : List W4) : List Int := if (wschk l).2 = 0 then levs l else []
def ringsE (l : List W4) : List (List Int) := if (wschk l).2 = 0 then ringsL l else []
/-- What is wrong with two rooms that may be apart. -/
def apE (l : List W4) (a b : Int) : Int := if (wschk l).2 = 0 then (if a < 0 ∨ 4 < a ∨ b < 0 ∨ 4 < b then 1 else 0) else (wschk l).2
def apB (l : List W4) (a b : Int) : Bool := if apE l a b = 0 then !way l a.toNat b.toNat && !way l b.toNat a.toNat else false
theorem lvs_five {w : World} {u : Value} {a b c d e : Int} (h : Stp w u [a, b, c, d, e]) : ∃ g o k, u = .slice (some ⟨g, o, none⟩) 5 k ∧ g < w.heap.size ∧ w.cell? ⟨g, o, none⟩ = some (.int .i64 a) ∧ w.cell? ⟨g, o + 1, none⟩ = some (.int .i64 b) ∧ w.cell? ⟨g, o + 2, none⟩ = some (.int .i64 c) ∧ w.cell? ⟨g, o + 3, none⟩ = some (.int .i64 d) ∧ w.cell? ⟨g, o + 4, none⟩ = some (.int .i64 e) := by
  rcases h with ⟨h0, _⟩ | ⟨g, o, k, rfl, hlt, hc⟩
  · cases h0
  · exact ⟨g, o, k, rfl, hlt, hc 0 a rfl, hc 1 b rfl, hc 2 c rfl, hc 3 d rfl, hc 4 e rfl⟩
end Go.Proofs.YtbnliibgnnegeagDoor
