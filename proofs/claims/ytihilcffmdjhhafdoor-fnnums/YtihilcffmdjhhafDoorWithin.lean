/- The landed program's inner value of a value, and whether it is right. -/
import Derived.Test.YtihilcffmdjhhafDoorVals
namespace Go.Proofs.YtihilcffmdjhhafDoor
open Go.ChangeShapes Go.WideShapes Go.ChangeAt Go.RowKit

end Go.Proofs.YtihilcffmdjhhafDoor
