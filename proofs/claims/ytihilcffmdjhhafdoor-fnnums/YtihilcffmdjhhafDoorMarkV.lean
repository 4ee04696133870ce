/- Rows marked and read again: values; tables and rows marked. -/
import Derived.Test.YtihilcffmdjhhafDoorMarkC
import Derived.Test.YtihilcffmdjhhafDoorCp
import Derived.Test.YtihilcffmdjhhafDoorAp
namespace Go.Proofs.YtihilcffmdjhhafDoor
open Go.ChangeShapes Go.WideShapes Go.ChangeAt Go.RowKit

/-- What a mark leaves in cell c of values. -/
def markV (k c : Nat) : Value := match c % 3 with
  | 0 => .int .i64 ((k + c : Nat) : Int)
  | 1 => .int .i64 ((k + c : Nat) : Int)
  | _ => .string (markB (k + c))
theorem markV_all (k j K : Nat) (h : K = k + j * 3) : markV k (j * 3) = .int .i64 (K : Int) ∧ markV k (j * 3 + 1) = .int .i64 ((K : Int) + 1) ∧ markV k (j * 3 + 2) = .string (markB (K + 2)) := by
  subst h
  refine ⟨?_, ?_, ?_⟩
  · rw [markV, show j * 3 % 3 = 0 by omega]
    rfl
  · rw [markV, show (j * 3 + 1) % 3 = 1 by omega]
    simp only []
    rw [show ((k + (j * 3 + 1) : Nat) : Int) = ((k + j * 3 : Nat) : Int) + 1 by omega]
  · rw [markV, show (j * 3 + 2) % 3 = 2 by omega]
    simp only []
    rw [show k + (j * 3 + 2) = k + j * 3 + 2 by omega]

end Go.Proofs.YtihilcffmdjhhafDoor
