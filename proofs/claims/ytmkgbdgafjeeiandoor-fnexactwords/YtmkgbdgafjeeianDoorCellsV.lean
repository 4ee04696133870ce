/- A value's cells. -/
import Derived.Test.YtmkgbdgafjeeianDoorVals
namespace Go.Proofs.YtmkgbdgafjeeianDoor
open Go.ChangeShapes Go.WideShapes Go.ChangeAt Go.RowKit

end Go.Proofs.YtmkgbdgafjeeianDoor
