/- Marks read again: texts, columns. -/
import Derived.Test.YtihilcffmdjhhafDoorMarkC
namespace Go.Proofs.YtihilcffmdjhhafDoor
open Go.ChangeShapes Go.WideShapes Go.ChangeAt Go.RowKit

end Go.Proofs.YtihilcffmdjhhafDoor
