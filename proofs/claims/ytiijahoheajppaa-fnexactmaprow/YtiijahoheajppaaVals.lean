/- Contracts of the functions on values: whether a value is right (given and landed), sizes and copies. -/
import Derived.Test.YtiijahoheajppaaRows
import Derived.Test.YtiijahoheajppaaNums
import Derived.WalkKit
import Derived.ProofKit
import Derived.OpenShut
import Derived.Below
import Derived.WalkLawsBesides
import Derived.BigQuiet
import Derived.Deep.QuietTactic
namespace Go.Proofs.Ytiijahoheajppaa
open Go.ChangeShapes Go.WideShapes Go.ChangeAt Go.RowKit

/-- A value as the walk holds it. -/
abbrev V (ty n : Int) (s : ByteArray) : Value := .agg #[.int .i64 ty, .int .i64 n, .string s]
/-- Whether a value is right. -/
def okB (ty n : Int) (s : ByteArray) : Bool :=
  if ty = 0 then n == 0 && s.toList.isEmpty else if ty = 1 then (n == 0 || n == 1) && s.toList.isEmpty else
  if ty = 2 then numB n && s.toList.isEmpty else if ty = 3 then n == 0 && decide (s.size ≤ 30) else false

theorem num_spec (n : Int) (w : World) : Calls Try.prog 73 #[.int .i64 n] w fun e w' => e = .returned (.bool (numB n)) ∧ w' = w := by
  by_cases h : -1099511627775 ≤ n
  · go_enter Try.func73, Try.ntmps73
    go_wp2
    go_ret
    exact ⟨by simp [numB, h], rfl⟩
  · go_enter Try.func73, Try.ntmps73
    go_wp2
    go_ret
    exact ⟨by rw [numB, decide_eq_false (by omega : ¬ -1099511627775 ≤ n)]; rfl, rfl⟩
theorem num_impl (n : Int) (w : World) : Calls Try.prog 75 #[.int .i64 n] w fun e w' => e = .returned (.bool (numB n)) ∧ w' = w := by
  by_cases h : -1099511627775 ≤ n
  · go_enter Try.func75, Try.ntmps75
    go_wp2
    go_ret
    exact ⟨by simp [numB, h], rfl⟩
  · go_enter Try.func75, Try.ntmps75
    go_wp2
    go_ret
    exact ⟨by rw [numB, decide_eq_false (by omega : ¬ -1099511627775 ≤ n)]; rfl, rfl⟩

theorem below_draws {B : Nat} {a w : World} (k : Nat) (h : Below B a w) : Below B a (w.drewN k) := ⟨h.os, h.tape, h.output, h.size, h.block⟩
theorem sizeLe (s : ByteArray) : (decide ((s.size : Int) ≤ 30)) = decide (s.size ≤ 30) := by
  rw [decide_eq_decide]; omega

/-- spec.ValOk -/
theorem ok_spec (ty n : Int) (s : ByteArray) (w : World) : Calls Try.prog 71 #[V ty n s] w fun e w' => e = .returned (.bool (okB ty n s)) ∧ w' = w.alloc (.cells #[.int .i64 ty, .int .i64 n, .string s] 58) := by
  by_cases h0 : ty = 0
  · subst h0
    cases h1 : n == 0
    all_goals
      go_enter Try.func71, Try.ntmps71
      go_wp2
      go_ret
      exact ⟨by simp [okB, h1], rfl⟩
  by_cases h1 : ty = 1
  · subst h1
    cases h1 : n == 0 <;> cases h2 : n == 1
    all_goals
      go_enter Try.func71, Try.ntmps71
      go_wp2
      go_ret
      exact ⟨by simp [okB, h1, h2], rfl⟩
  by_cases h2 : ty = 2
  · subst h2
    cases h1 : numB n
    all_goals
      go_enter Try.func71, Try.ntmps71
      go_wp2_with (go_at_call 73; refine (num_spec _ _).mono ?_; rintro e w' ⟨rfl, rfl⟩)
      go_ret
      exact ⟨by simp [okB, h1], rfl⟩
  by_cases h3 : ty = 3
  · subst h3
    cases h1 : n == 0
    all_goals
      go_enter Try.func71, Try.ntmps71
      go_wp2
      go_ret
      exact ⟨by simp [okB, h1, sizeLe], rfl⟩
  · have e0 : (ty == 0) = false := by simp [h0]
    have e1 : (ty == 1) = false := by simp [h1]
    have e2 : (ty == 2) = false := by simp [h2]
    have e3 : (ty == 3) = false := by simp [h3]
    go_enter Try.func71, Try.ntmps71
    go_wp2
    go_ret
    exact ⟨by simp [okB, h0, h1, h2, h3], rfl⟩
end Go.Proofs.Ytiijahoheajppaa
