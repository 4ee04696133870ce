/- The laws' look at two values. -/
import Derived.Test.YtmkgbdgafjeeianDoorToVal
namespace Go.Proofs.YtmkgbdgafjeeianDoor
open Go.ChangeShapes Go.WideShapes Go.ChangeAt Go.RowKit

end Go.Proofs.YtmkgbdgafjeeianDoor
