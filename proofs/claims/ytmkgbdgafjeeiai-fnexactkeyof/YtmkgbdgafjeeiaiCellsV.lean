/- A value's cells. -/
import Derived.Test.YtmkgbdgafjeeiaiVals
namespace Go.Proofs.Ytmkgbdgafjeeiai
open Go.ChangeShapes Go.WideShapes Go.ChangeAt Go.RowKit

abbrev cellsV (ty n : Int) (s : ByteArray) : Obj := .cells #[.int .i64 ty, .int .i64 n, .string s] 58
end Go.Proofs.Ytmkgbdgafjeeiai
