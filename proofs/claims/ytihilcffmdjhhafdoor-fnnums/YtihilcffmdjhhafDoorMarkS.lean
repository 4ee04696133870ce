/- Rows marked: texts. -/
import Derived.Test.YtihilcffmdjhhafDoorMark
import Derived.Test.YtihilcffmdjhhafDoorTb
import Derived.Deep.RegionWith
namespace Go.Proofs.YtihilcffmdjhhafDoor
open Go.ChangeShapes Go.WideShapes Go.ChangeAt Go.RowKit

theorem rowIs_on {w w' : World} {b : Nat} {T : TypeId} {n : Nat} {f : Nat → Value} (h : w.rowIs b T n f) (k : Below w.heap.size w w') : w'.rowIs b T n f := h.of_block (k.block b h.lt)

end Go.Proofs.YtihilcffmdjhhafDoor
