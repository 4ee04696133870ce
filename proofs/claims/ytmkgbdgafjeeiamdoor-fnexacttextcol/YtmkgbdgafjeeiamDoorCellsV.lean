/- A value's cells. -/
import Derived.Test.YtmkgbdgafjeeiamDoorVals
namespace Go.Proofs.YtmkgbdgafjeeiamDoor
open Go.ChangeShapes Go.WideShapes Go.ChangeAt Go.RowKit

abbrev cellsV (ty n : Int) (s : ByteArray) : Obj := .cells #[.int .i64 ty, .int .i64 n, .string s] 23
end Go.Proofs.YtmkgbdgafjeeiamDoor
