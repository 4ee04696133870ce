/- A value's cells. -/
import Derived.Test.YtmcjchaokpcomacVals
namespace Go.Proofs.Ytmcjchaokpcomac
open Go.ChangeShapes Go.WideShapes Go.ChangeAt Go.RowKit

abbrev cellsV (ty n : Int) (s : ByteArray) : Obj := .cells #[.int .i64 ty, .int .i64 n, .string s] 97
end Go.Proofs.Ytmcjchaokpcomac
