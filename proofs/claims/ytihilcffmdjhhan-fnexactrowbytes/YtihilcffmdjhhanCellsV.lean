/- A value's cells. -/
import Derived.Test.YtihilcffmdjhhanVals
namespace Go.Proofs.Ytihilcffmdjhhan
open Go.ChangeShapes Go.WideShapes Go.ChangeAt Go.RowKit

abbrev cellsV (ty n : Int) (s : ByteArray) : Obj := .cells #[.int .i64 ty, .int .i64 n, .string s] 35
end Go.Proofs.Ytihilcffmdjhhan
