/- A row of values: the laws' size, copy and look. -/
import Derived.Test.YtihilcffmdjhhafDoorVs
namespace Go.Proofs.YtihilcffmdjhhafDoor
open Go.ChangeShapes Go.WideShapes Go.ChangeAt Go.RowKit

theorem Fill.other {w : World} {B : Nat} {T : TypeId} {z n : Nat} {xs : List (Array Value)} (h : Fill w B T z n xs) {p : Addr} (hp : B ≠ p.block) (u : Value) : Fill (w.setCell p u) B T z n xs := by
  obtain ⟨h0, h1, f, hr, hf⟩ := h
  exact ⟨h0, h1, f, hr.of_block (Below.heap_setCell _ _ _ _ hp), hf⟩

end Go.Proofs.YtihilcffmdjhhafDoor
