/- The contract of the landed ValOk. -/
import Derived.Test.YtbpdbhchnpnabajWithin
import Derived.Test.YtbpdbhchnpnabajCellsV
namespace Go.Proofs.Ytbpdbhchnpnabaj
open Go.ChangeShapes Go.WideShapes Go.ChangeAt Go.RowKit

theorem ok_impl (ty n : Int) (s : ByteArray) (w : World) : Calls Try.prog 53 #[V ty n s] w fun e w' => e = .returned (.bool (okB ty n s)) ∧ ∃ k, w' = ((w.alloc (cellsV ty n s)).alloc (cellsV ty n s)).drewN k := by
  go_enter Try.func53, Try.ntmps53
  go_wp2_with (go_at_call 57; refine (within_any _ _ _ _).mono ?_; rintro e w' ⟨rfl, k, rfl⟩)
  go_ret
  exact ⟨rfl, _, rfl⟩
end Go.Proofs.Ytbpdbhchnpnabaj
