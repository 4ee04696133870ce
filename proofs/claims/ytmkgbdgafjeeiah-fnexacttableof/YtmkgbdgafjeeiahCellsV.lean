/- A value's cells. -/
import Derived.Test.YtmkgbdgafjeeiahVals
namespace Go.Proofs.Ytmkgbdgafjeeiah
open Go.ChangeShapes Go.WideShapes Go.ChangeAt Go.RowKit

abbrev cellsV (ty n : Int) (s : ByteArray) : Obj := .cells #[.int .i64 ty, .int .i64 n, .string s] 28
end Go.Proofs.Ytmkgbdgafjeeiah
