/- A value's cells. -/
import Derived.Test.YtiijahoheajppaaVals
namespace Go.Proofs.Ytiijahoheajppaa
open Go.ChangeShapes Go.WideShapes Go.ChangeAt Go.RowKit

abbrev cellsV (ty n : Int) (s : ByteArray) : Obj := .cells #[.int .i64 ty, .int .i64 n, .string s] 58
end Go.Proofs.Ytiijahoheajppaa
