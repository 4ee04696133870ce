/- Stores in memory: the laws' size, copy and look. -/
import Derived.Test.YtmkgbdgafjeeiahDa
import Derived.Test.YtmkgbdgafjeeiahCtO
namespace Go.Proofs.Ytmkgbdgafjeeiah
open Go.ChangeShapes Go.WideShapes Go.ChangeAt Go.RowKit

end Go.Proofs.Ytmkgbdgafjeeiah
