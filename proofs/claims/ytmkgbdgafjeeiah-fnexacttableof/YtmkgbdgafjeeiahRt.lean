/- The laws' copies of rows, with their shape. -/
import Derived.Test.YtmkgbdgafjeeiahNw
import Derived.Test.YtmkgbdgafjeeiahDa
namespace Go.Proofs.Ytmkgbdgafjeeiah
open Go.ChangeShapes Go.WideShapes Go.ChangeAt Go.RowKit

end Go.Proofs.Ytmkgbdgafjeeiah
