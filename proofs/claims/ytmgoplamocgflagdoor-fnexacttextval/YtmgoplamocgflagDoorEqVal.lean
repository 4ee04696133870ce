/- The laws' look at two values. -/
import Derived.Test.YtmgoplamocgflagDoorToVal
namespace Go.Proofs.YtmgoplamocgflagDoor
open Go.ChangeShapes Go.WideShapes Go.ChangeAt Go.RowKit

theorem eqVal_same (ty n : Int) (s : ByteArray) (w : World) : Calls Tryd.prog 11 #[V ty n s, V ty n s] w fun e w' => e = .returned (.bool true) ∧ w' = (w.alloc (cellsV ty n s)).alloc (cellsV ty n s) := by
  go_enter Tryd.func11, Tryd.ntmps11
  go_wp2
  go_ret
  exact ⟨rfl, rfl⟩
end Go.Proofs.YtmgoplamocgflagDoor
