/- The laws' look at two values. -/
import Derived.Test.YtiijahoheajppabToVal
namespace Go.Proofs.Ytiijahoheajppab
open Go.ChangeShapes Go.WideShapes Go.ChangeAt Go.RowKit

theorem eqVal_same (ty n : Int) (s : ByteArray) (w : World) : Calls Try.prog 124 #[V ty n s, V ty n s] w fun e w' => e = .returned (.bool true) ∧ w' = (w.alloc (cellsV ty n s)).alloc (cellsV ty n s) := by
  go_enter Try.func124, Try.ntmps124
  go_wp2
  go_ret
  exact ⟨rfl, rfl⟩
end Go.Proofs.Ytiijahoheajppab
