/- The contract of the landed ValOk. -/
import Derived.Test.YtbjnonondnemhabWithin
import Derived.Test.YtbjnonondnemhabCellsV
namespace Go.Proofs.Ytbjnonondnemhab
open Go.ChangeShapes Go.WideShapes Go.ChangeAt Go.RowKit

theorem ok_impl (ty n : Int) (s : ByteArray) (w : World) : Calls Try.prog 176 #[V ty n s] w fun e w' => e = .returned (.bool (okB ty n s)) ∧ ∃ k, w' = ((w.alloc (cellsV ty n s)).alloc (cellsV ty n s)).drewN k := by
  go_enter Try.func176, Try.ntmps176
  go_wp2_with (go_at_call 183; refine (within_any _ _ _ _).mono ?_; rintro e w' ⟨rfl, k, rfl⟩)
  go_ret
  exact ⟨rfl, _, rfl⟩
end Go.Proofs.Ytbjnonondnemhab
