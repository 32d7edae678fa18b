/-
  From what the row says of the package variables to what reading a text asks of the world.
-/
import Derived.Test.YtfneffmiignapaaGreatDoorLaid
import Derived.Test.YtfneffmiignapaaGreatDoorNumber
import Derived.Lay
namespace Go.Proofs.YtfneffmiignapaaGreatDoor
open Go.ChangeShapes Go.WideShapes Go.ChangeAt Go.WideElems Go.RowKit

theorem tErr : (Tryz.prog.globals[6]?).map (·.type) = some 26 := by kernel_rfl
set_option maxRecDepth 100000 in
theorem errS_of_head {W : World} {nm : String} {d : DataW Unit} {rest : List (String × DataW Unit)} (h : laidMet Tryz.prog (("strconv.ErrSyntax", .iface nm d) :: rest) W) : ErrS W := by
  obtain ⟨ps, ⟨g', t', cs, fuel, p, q, hg', ht', hvar, hd, _, _⟩, _⟩ := h
  obtain rfl := Option.some.inj (gErr.symm.trans hg')
  obtain rfl := Option.some.inj (tErr.symm.trans ht')
  obtain ⟨l⟩ := cs
  cases fuel with
  | zero => simp [DataW.trod] at hd
  | succ fuel =>
    unfold DataW.trod at hd
    rw [Tryz.underlying26] at hd
    split at hd <;> simp_all
    exact ⟨_, _, hvar⟩
end Go.Proofs.YtfneffmiignapaaGreatDoor
