/- The contract of the landed ValOk. -/
import Derived.Test.YtiijahoheajppaaGreatWithin
import Derived.Test.YtiijahoheajppaaGreatCellsV
namespace Go.Proofs.YtiijahoheajppaaGreat
open Go.ChangeShapes Go.WideShapes Go.ChangeAt Go.RowKit

theorem ok_impl (ty n : Int) (s : ByteArray) (w : World) : Calls Tryz.prog 143 #[V ty n s] w fun e w' => e = .returned (.bool (okB ty n s)) ∧ ∃ k, w' = ((w.alloc (cellsV ty n s)).alloc (cellsV ty n s)).drewN k := by
  go_enter Tryz.func143, Tryz.ntmps143
  go_wp2_with (go_at_call 156; refine (within_any _ _ _ _).mono ?_; rintro e w' ⟨rfl, k, rfl⟩)
  go_ret
  exact ⟨rfl, _, rfl⟩
end Go.Proofs.YtiijahoheajppaaGreat
