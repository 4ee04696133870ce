/- Marks read again: texts, columns. -/
import Derived.Test.YtmkgbdgafjeeiamDoorMarkC
namespace Go.Proofs.YtmkgbdgafjeeiamDoor
open Go.ChangeShapes Go.WideShapes Go.ChangeAt Go.RowKit

end Go.Proofs.YtmkgbdgafjeeiamDoor
