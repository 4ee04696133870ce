/- A value's cells. -/
import Derived.Test.YtiijahoheajppabVals
namespace Go.Proofs.Ytiijahoheajppab
open Go.ChangeShapes Go.WideShapes Go.ChangeAt Go.RowKit

abbrev cellsV (ty n : Int) (s : ByteArray) : Obj := .cells #[.int .i64 ty, .int .i64 n, .string s] 56
end Go.Proofs.Ytiijahoheajppab
