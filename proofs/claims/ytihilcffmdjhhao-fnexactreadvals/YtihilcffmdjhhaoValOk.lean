/- The contract of the landed ValOk. -/
import Derived.Test.YtihilcffmdjhhaoWithin
import Derived.Test.YtihilcffmdjhhaoCellsV
namespace Go.Proofs.Ytihilcffmdjhhao
open Go.ChangeShapes Go.WideShapes Go.ChangeAt Go.RowKit

theorem ok_impl (ty n : Int) (s : ByteArray) (w : World) : Calls Try.prog 111 #[V ty n s] w fun e w' => e = .returned (.bool (okB ty n s)) ∧ ∃ k, w' = ((w.alloc (cellsV ty n s)).alloc (cellsV ty n s)).drewN k := by
  go_enter Try.func111, Try.ntmps111
  go_wp2_with (go_at_call 124; refine (within_any _ _ _ _).mono ?_; rintro e w' ⟨rfl, k, rfl⟩)
  go_ret
  exact ⟨rfl, _, rfl⟩
end Go.Proofs.Ytihilcffmdjhhao
