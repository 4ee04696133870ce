/- A value's cells. -/
import Derived.Test.YtmcjchaokpcomaaVals
namespace Go.Proofs.Ytmcjchaokpcomaa
open Go.ChangeShapes Go.WideShapes Go.ChangeAt Go.RowKit

abbrev cellsV (ty n : Int) (s : ByteArray) : Obj := .cells #[.int .i64 ty, .int .i64 n, .string s] 100
end Go.Proofs.Ytmcjchaokpcomaa
