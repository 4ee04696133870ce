/- A start at which the library's tables of runes lie as they were laid. -/
import Derived.Test.YtmkgbdgafjeeianDoorAp
import Derived.Deep.DeepHandedRow
import Derived.Deep.DeepWitnessRowRef
import Derived.Lib.LaidTab
import Derived.Stop.LaidErr
import Derived.LaidLaws
import Derived.MakeChecks
namespace Go.Proofs.YtmkgbdgafjeeianDoor
open Go.ChangeShapes Go.WideShapes Go.ChangeAt Go.RowKit

/-- Other cells in a block. -/
def laidAsU (cs : Array Value) : Obj → Obj
  | .cells _ t frozen => .cells cs t frozen
  | o => o
def tabAccept : Array Value := ((#[128, 191, 160, 191, 128, 159, 144, 191, 128, 143] ++ Array.replicate 22 0 : Array Nat)).map fun (n : Nat) => .int .u8 (n : Int)
def tabFirst : Array Value := ((Array.replicate 128 240 ++ Array.replicate 66 241 ++ Array.replicate 30 2 ++ #[19] ++ Array.replicate 12 3 ++ #[35, 3, 3, 52, 4, 4, 4, 68] ++ Array.replicate 11 241 : Array Nat)).map fun (n : Nat) => .int .u8 (n : Int)
/-- The variables as their initialisers lay them. -/
def layU (W : World) : World := { W with heap := (W.heap.modify 2 (laidAsU tabAccept)).modify 1 (laidAsU tabFirst) }
/-- A start: the program's settled world, the tables laid. -/
def startU (P : Program) (os : Os) : World := layU (World.holding P os ⟨#[], #[], []⟩)
theorem ownU : ownKnob Tryd.prog.godebug = none := by kernel_rfl
end Go.Proofs.YtmkgbdgafjeeianDoor
