/- A value's cells. -/
import Derived.Test.YtcnoiohgaheegaiVals
namespace Go.Proofs.Ytcnoiohgaheegai
open Go.ChangeShapes Go.WideShapes Go.ChangeAt Go.RowKit

abbrev cellsV (ty n : Int) (s : ByteArray) : Obj := .cells #[.int .i64 ty, .int .i64 n, .string s] 57
end Go.Proofs.Ytcnoiohgaheegai
