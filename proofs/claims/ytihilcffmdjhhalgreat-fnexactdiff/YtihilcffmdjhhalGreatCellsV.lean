/- A value's cells. -/
import Derived.Test.YtihilcffmdjhhalGreatVals
namespace Go.Proofs.YtihilcffmdjhhalGreat
open Go.ChangeShapes Go.WideShapes Go.ChangeAt Go.RowKit

abbrev cellsV (ty n : Int) (s : ByteArray) : Obj := .cells #[.int .i64 ty, .int .i64 n, .string s] 126
end Go.Proofs.YtihilcffmdjhhalGreat
