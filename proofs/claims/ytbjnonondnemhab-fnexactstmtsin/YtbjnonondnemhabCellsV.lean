/- A value's cells. -/
import Derived.Test.YtbjnonondnemhabVals
namespace Go.Proofs.Ytbjnonondnemhab
open Go.ChangeShapes Go.WideShapes Go.ChangeAt Go.RowKit

abbrev cellsV (ty n : Int) (s : ByteArray) : Obj := .cells #[.int .i64 ty, .int .i64 n, .string s] 84
end Go.Proofs.Ytbjnonondnemhab
