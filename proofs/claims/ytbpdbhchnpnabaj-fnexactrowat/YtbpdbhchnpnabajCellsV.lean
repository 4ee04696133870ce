/- A value's cells. -/
import Derived.Test.YtbpdbhchnpnabajVals
namespace Go.Proofs.Ytbpdbhchnpnabaj
open Go.ChangeShapes Go.WideShapes Go.ChangeAt Go.RowKit

abbrev cellsV (ty n : Int) (s : ByteArray) : Obj := .cells #[.int .i64 ty, .int .i64 n, .string s] 59
end Go.Proofs.Ytbpdbhchnpnabaj
