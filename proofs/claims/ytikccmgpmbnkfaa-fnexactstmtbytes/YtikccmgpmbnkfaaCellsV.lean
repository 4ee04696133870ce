/- A value's cells. -/
import Derived.Test.YtikccmgpmbnkfaaVals
namespace Go.Proofs.Ytikccmgpmbnkfaa
open Go.ChangeShapes Go.WideShapes Go.ChangeAt Go.RowKit

abbrev cellsV (ty n : Int) (s : ByteArray) : Obj := .cells #[.int .i64 ty, .int .i64 n, .string s] 118
end Go.Proofs.Ytikccmgpmbnkfaa
