/- The laws' look at two values. -/
import Derived.Test.YtiijahoheajppaaToVal
namespace Go.Proofs.Ytiijahoheajppaa
open Go.ChangeShapes Go.WideShapes Go.ChangeAt Go.RowKit

theorem eqVal_same (ty n : Int) (s : ByteArray) (w : World) : Calls Try.prog 48 #[V ty n s, V ty n s] w fun e w' => e = .returned (.bool true) ∧ w' = (w.alloc (cellsV ty n s)).alloc (cellsV ty n s) := by
  go_enter Try.func48, Try.ntmps48
  go_wp2
  go_ret
  exact ⟨rfl, rfl⟩
end Go.Proofs.Ytiijahoheajppaa
