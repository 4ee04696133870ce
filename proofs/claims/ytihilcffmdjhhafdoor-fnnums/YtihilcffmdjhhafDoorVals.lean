/- Contracts of the functions on values: whether a value is right (given and landed), sizes and copies. -/
import Derived.Test.YtihilcffmdjhhafDoorRows
import Derived.Test.YtihilcffmdjhhafDoorNums
import Derived.WalkKit
import Derived.ProofKit
import Derived.OpenShut
import Derived.Below
import Derived.WalkLawsBesides
import Derived.BigQuiet
import Derived.Deep.QuietTactic
namespace Go.Proofs.YtihilcffmdjhhafDoor
open Go.ChangeShapes Go.WideShapes Go.ChangeAt Go.RowKit

/-- A value as the walk holds it. -/
abbrev V (ty n : Int) (s : ByteArray) : Value := .agg #[.int .i64 ty, .int .i64 n, .string s]
/-- Whether a value is right. -/
def okB (ty n : Int) (s : ByteArray) : Bool :=
  if ty = 0 then n == 0 && s.toList.isEmpty else if ty = 1 then (n == 0 || n == 1) && s.toList.isEmpty else
  if ty = 2 then numB n && s.toList.isEmpty else if ty = 3 then n == 0 && decide (s.size ≤ 30) else false

theorem num_impl (n : Int) (w : World) : Calls Tryd.prog 18 #[.int .i64 n] w fun e w' => e = .returned (.bool (numB n)) ∧ w' = w := by
  by_cases h : -1099511627775 ≤ n
  · go_enter Tryd.func18, Tryd.ntmps18
    go_wp2
    go_ret
    exact ⟨by simp [numB, h], rfl⟩
  · go_enter Tryd.func18, Tryd.ntmps18
    go_wp2
    go_ret
    exact ⟨by rw [numB, decide_eq_false (by omega : ¬ -1099511627775 ≤ n)]; rfl, rfl⟩

theorem below_draws {B : Nat} {a w : World} (k : Nat) (h : Below B a w) : Below B a (w.drewN k) := ⟨h.os, h.tape, h.output, h.size, h.block⟩
theorem sizeLe (s : ByteArray) : (decide ((s.size : Int) ≤ 30)) = decide (s.size ≤ 30) := by
  rw [decide_eq_decide]; omega

end Go.Proofs.YtihilcffmdjhhafDoor
