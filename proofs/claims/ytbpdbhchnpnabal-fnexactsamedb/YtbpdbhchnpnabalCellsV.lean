/- A value's cells. -/
import Derived.Test.YtbpdbhchnpnabalVals
namespace Go.Proofs.Ytbpdbhchnpnabal
open Go.ChangeShapes Go.WideShapes Go.ChangeAt Go.RowKit

abbrev cellsV (ty n : Int) (s : ByteArray) : Obj := .cells #[.int .i64 ty, .int .i64 n, .string s] 101
end Go.Proofs.Ytbpdbhchnpnabal
