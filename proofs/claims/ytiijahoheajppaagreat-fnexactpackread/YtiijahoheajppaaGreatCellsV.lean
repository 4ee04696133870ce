/- A value's cells. -/
import Derived.Test.YtiijahoheajppaaGreatVals
namespace Go.Proofs.YtiijahoheajppaaGreat
open Go.ChangeShapes Go.WideShapes Go.ChangeAt Go.RowKit

abbrev cellsV (ty n : Int) (s : ByteArray) : Obj := .cells #[.int .i64 ty, .int .i64 n, .string s] 128
end Go.Proofs.YtiijahoheajppaaGreat
