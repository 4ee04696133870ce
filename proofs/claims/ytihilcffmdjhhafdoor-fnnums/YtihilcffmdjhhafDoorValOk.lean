/- The contract of the landed ValOk. -/
import Derived.Test.YtihilcffmdjhhafDoorWithin
import Derived.Test.YtihilcffmdjhhafDoorCellsV
namespace Go.Proofs.YtihilcffmdjhhafDoor
open Go.ChangeShapes Go.WideShapes Go.ChangeAt Go.RowKit

end Go.Proofs.YtihilcffmdjhhafDoor
