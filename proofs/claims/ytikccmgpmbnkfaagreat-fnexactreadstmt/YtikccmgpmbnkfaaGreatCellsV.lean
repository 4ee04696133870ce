/- A value's cells. -/
import Derived.Test.YtikccmgpmbnkfaaGreatVals
namespace Go.Proofs.YtikccmgpmbnkfaaGreat
open Go.ChangeShapes Go.WideShapes Go.ChangeAt Go.RowKit

abbrev cellsV (ty n : Int) (s : ByteArray) : Obj := .cells #[.int .i64 ty, .int .i64 n, .string s] 128
end Go.Proofs.YtikccmgpmbnkfaaGreat
