/- Marks read again: texts, columns. -/
import Derived.Test.YtikccmgpmbnkfaaMarkC
namespace Go.Proofs.Ytikccmgpmbnkfaa
open Go.ChangeShapes Go.WideShapes Go.ChangeAt Go.RowKit

end Go.Proofs.Ytikccmgpmbnkfaa
