/- A value's cells. -/
import Derived.Test.YtodmbdfhcghdpaiVals
namespace Go.Proofs.Ytodmbdfhcghdpai
open Go.ChangeShapes Go.WideShapes Go.ChangeAt Go.RowKit

abbrev cellsV (ty n : Int) (s : ByteArray) : Obj := .cells #[.int .i64 ty, .int .i64 n, .string s] 58
end Go.Proofs.Ytodmbdfhcghdpai
