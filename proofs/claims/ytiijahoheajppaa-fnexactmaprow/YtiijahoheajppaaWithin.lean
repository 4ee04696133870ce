/- The landed program's inner value of a value, and whether it is right. -/
import Derived.Test.YtiijahoheajppaaVals
namespace Go.Proofs.Ytiijahoheajppaa
open Go.ChangeShapes Go.WideShapes Go.ChangeAt Go.RowKit

/-- The inner value that the landed program makes of a value. -/
def inner (ty n : Int) (s : ByteArray) : Value :=
  if ty = 0 then .iface 110 (.agg #[]) else if ty = 1 then .iface 111 (.bool (n == 1)) else
  if ty = 2 then .iface 112 (.int .i64 n) else if ty = 3 then .iface 113 (.string s) else .iface 110 (.agg #[])

theorem within_any (ty n : Int) (s : ByteArray) (w : World) : Calls Try.prog 74 #[V ty n s] w fun e w' => e = .returned (.tuple #[inner ty n s, .bool (okB ty n s)]) ∧ ∃ k, w' = (w.alloc (.cells #[.int .i64 ty, .int .i64 n, .string s] 58)).drewN k := by
  by_cases h0 : ty = 0
  · subst h0
    cases h1 : n == 0
    all_goals
      go_enter Try.func74, Try.ntmps74
      go_wp2
      go_quiet (fail)
      go_wp2
      go_ret2
      exact ⟨by simp [okB, inner, h1], _, rfl⟩
  by_cases h1 : ty = 1
  · subst h1
    cases h1 : n == 0 <;> cases h2 : n == 1
    all_goals
      go_enter Try.func74, Try.ntmps74
      go_wp2
      go_quiet (fail)
      go_wp2
      go_ret2
      exact ⟨by simp [okB, inner, h1, h2], _, rfl⟩
  by_cases h2 : ty = 2
  · subst h2
    cases h1 : numB n
    all_goals
      go_enter Try.func74, Try.ntmps74
      go_wp2
      go_quiet ((go_at_call 75; exact Calls.quiet_of_same (num_impl _ _)))
      go_wp2
      go_ret2
      exact ⟨by simp [okB, inner, h1], _, rfl⟩
  by_cases h3 : ty = 3
  · subst h3
    cases h1 : n == 0
    all_goals
      go_enter Try.func74, Try.ntmps74
      go_wp2
      go_quiet (fail)
      go_wp2
      go_ret2
      exact ⟨by simp [okB, inner, h1, sizeLe], _, rfl⟩
  · have e0 : (ty == 0) = false := by simp [h0]
    have e1 : (ty == 1) = false := by simp [h1]
    have e2 : (ty == 2) = false := by simp [h2]
    have e3 : (ty == 3) = false := by simp [h3]
    go_enter Try.func74, Try.ntmps74
    go_wp2
    go_ret2
    exact ⟨by simp [okB, inner, h0, h1, h2, h3], 0, rfl⟩
end Go.Proofs.Ytiijahoheajppaa
