/- The laws' look at two values. -/
import Derived.Test.YtihilcffmdjhhafDoorToVal
namespace Go.Proofs.YtihilcffmdjhhafDoor
open Go.ChangeShapes Go.WideShapes Go.ChangeAt Go.RowKit

end Go.Proofs.YtihilcffmdjhhafDoor
