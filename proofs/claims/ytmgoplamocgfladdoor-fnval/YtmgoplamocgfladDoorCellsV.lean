/- A value's cells. -/
import Derived.Test.YtmgoplamocgfladDoorVals
namespace Go.Proofs.YtmgoplamocgfladDoor
open Go.ChangeShapes Go.WideShapes Go.ChangeAt Go.RowKit

abbrev cellsV (ty n : Int) (s : ByteArray) : Obj := .cells #[.int .i64 ty, .int .i64 n, .string s] 24
end Go.Proofs.YtmgoplamocgfladDoor
