/- The place of a column: the landed ColAt. -/
import Derived.Test.YtiijahoheajppaaPl
namespace Go.Proofs.Ytiijahoheajppaa
open Go.ChangeShapes Go.WideShapes Go.ChangeAt Go.RowKit

end Go.Proofs.Ytiijahoheajppaa
