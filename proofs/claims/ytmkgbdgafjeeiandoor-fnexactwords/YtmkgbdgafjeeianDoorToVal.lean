/- The laws' copy of a value, and its size. -/
import Derived.Test.YtmkgbdgafjeeianDoorCellsV
namespace Go.Proofs.YtmkgbdgafjeeianDoor
open Go.ChangeShapes Go.WideShapes Go.ChangeAt Go.RowKit

end Go.Proofs.YtmkgbdgafjeeianDoor
