/- The laws' copy of a value, and its size. -/
import Derived.Test.YtmkgbdgafjeeiamDoorCellsV
namespace Go.Proofs.YtmkgbdgafjeeiamDoor
open Go.ChangeShapes Go.WideShapes Go.ChangeAt Go.RowKit

end Go.Proofs.YtmkgbdgafjeeiamDoor
