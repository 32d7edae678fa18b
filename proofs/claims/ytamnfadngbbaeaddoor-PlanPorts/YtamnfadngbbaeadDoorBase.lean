/-
  What the walks of package code ask of the world: the table of forms lies where the program laid it.
-/
import Derived.Test.YtamnfadngbbaeadDoorCodeL
namespace Go.Proofs.YtamnfadngbbaeadDoor
open Go.RowKit

/-- The cells of the table of forms. -/
def formsCells : List Value := [
  .string ⟨#[]⟩, .int .i64 0, .int .i64 0,
  .string ⟨#[115, 101, 116]⟩, .int .i64 6, .int .i64 1000,
  .string ⟨#[99, 111, 112, 121]⟩, .int .i64 6, .int .i64 6,
  .string ⟨#[97, 100, 100]⟩, .int .i64 6, .int .i64 6,
  .string ⟨#[115, 117, 98]⟩, .int .i64 6, .int .i64 6,
  .string ⟨#[109, 117, 108]⟩, .int .i64 6, .int .i64 6,
  .string ⟨#[122, 101, 114, 111]⟩, .int .i64 6, .int .i64 0,
  .string ⟨#[106, 117, 109, 112]⟩, .int .i64 1, .int .i64 0,
  .string ⟨#[115, 101, 110, 100]⟩, .int .i64 6, .int .i64 12,
  .string ⟨#[116, 97, 107, 101]⟩, .int .i64 6, .int .i64 12,
  .string ⟨#[114, 101, 115, 116]⟩, .int .i64 1, .int .i64 1,
  .string ⟨#[102, 97, 105, 108]⟩, .int .i64 1, .int .i64 1]
/-- The table of forms lies in the world. -/
def Forms (w : World) : Prop := ∀ i v, formsCells[i]? = some v → w.cell? ⟨1, i, none⟩ = some v

theorem Forms.below {B : Nat} {w w' : World} (hf : Forms w) (hb : Below B w w') (hB : 1 < B) : Forms w' :=
  fun i v h => (hb.cell (p := ⟨_, i, none⟩) hB).trans (hf i v h)
theorem Forms.lt {w : World} (hf : Forms w) : 1 < w.heap.size := lt_of_cell (hf 0 _ rfl)
theorem Forms.all {w w' : World} (hf : Forms w) (hb : Below w.heap.size w w') : Forms w' := hf.below hb hf.lt
theorem Forms.alloc {w : World} (hf : Forms w) (o : Obj) : Forms (w.alloc o) := hf.all ((Below.refl _ _).alloc (Nat.le_refl _) _)
theorem Forms.drew {w : World} (hf : Forms w) : Forms w.drew := hf.all (Below.refl _ _).drew
end Go.Proofs.YtamnfadngbbaeadDoor
