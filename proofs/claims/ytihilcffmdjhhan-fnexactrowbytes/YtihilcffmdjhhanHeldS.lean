/- Marks read again: texts, columns. -/
import Derived.Test.YtihilcffmdjhhanMarkC
namespace Go.Proofs.Ytihilcffmdjhhan
open Go.ChangeShapes Go.WideShapes Go.ChangeAt Go.RowKit

end Go.Proofs.Ytihilcffmdjhhan
