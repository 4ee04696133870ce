/- A value's cells. -/
import Derived.Test.YtihilcffmdjhhaoVals
namespace Go.Proofs.Ytihilcffmdjhhao
open Go.ChangeShapes Go.WideShapes Go.ChangeAt Go.RowKit

abbrev cellsV (ty n : Int) (s : ByteArray) : Obj := .cells #[.int .i64 ty, .int .i64 n, .string s] 104
end Go.Proofs.Ytihilcffmdjhhao
