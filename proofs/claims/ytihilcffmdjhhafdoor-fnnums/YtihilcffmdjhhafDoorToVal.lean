/- The laws' copy of a value, and its size. -/
import Derived.Test.YtihilcffmdjhhafDoorCellsV
namespace Go.Proofs.YtihilcffmdjhhafDoor
open Go.ChangeShapes Go.WideShapes Go.ChangeAt Go.RowKit

end Go.Proofs.YtihilcffmdjhhafDoor
