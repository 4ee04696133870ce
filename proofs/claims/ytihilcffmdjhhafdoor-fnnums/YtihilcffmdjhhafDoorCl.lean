/- A column: what it holds, the laws' copy, size and look. -/
import Derived.Test.YtihilcffmdjhhafDoorToVal
import Derived.Test.YtihilcffmdjhhafDoorWords
namespace Go.Proofs.YtihilcffmdjhhafDoor
open Go.ChangeShapes Go.WideShapes Go.ChangeAt Go.RowKit

/-- A column's fields. -/
structure Cl where
  name : ByteArray
  ty : Int
  nt : Bool
  has : Bool
  dt : Int
  dn : Int
  ds : ByteArray
abbrev Cl.cells (c : Cl) : Array Value := #[.string c.name, .int .i64 c.ty, .bool c.nt, .bool c.has, .int .i64 c.dt, .int .i64 c.dn, .string c.ds]
abbrev Cl.v (c : Cl) : Value := .agg c.cells
def Cl.sz (c : Cl) : Nat := c.name.size + c.ds.size
/-- What is left behind something of a size; -1 where there was too little. -/
def rest (l : Int) (n : Nat) : Int := if l < n then -1 else l - n
theorem rest_no {l : Int} {n : Nat} (h : l < n) : rest l n = -1 := if_pos h
theorem rest_yes {l : Int} {n : Nat} (h : ¬ l < n) : rest l n = l - n := if_neg h
theorem ret_i {a b : Int} (h : a = b) : Ending.returned (.int .i64 a) = .returned (.int .i64 b) := by rw [h]

end Go.Proofs.YtihilcffmdjhhafDoor
