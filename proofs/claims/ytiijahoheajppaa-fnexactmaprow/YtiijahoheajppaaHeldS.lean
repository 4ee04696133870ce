/- Marks read again: texts, columns. -/
import Derived.Test.YtiijahoheajppaaMarkC
namespace Go.Proofs.Ytiijahoheajppaa
open Go.ChangeShapes Go.WideShapes Go.ChangeAt Go.RowKit

end Go.Proofs.Ytiijahoheajppaa
