/- Whether the landed ValOk answers as it should: the contracts of ValOk, of the law's copy and size, and the law's walk. -/
import Derived.Test.YtmgoplamocgflafWithin
namespace Go.Proofs.Ytmgoplamocgflaf
open Go.ChangeShapes Go.WideShapes Go.ChangeAt Go.RowKit

abbrev cellsV (ty n : Int) (s : ByteArray) : Obj := .cells #[.int .i64 ty, .int .i64 n, .string s] 26
abbrev cellsL (ty n : Int) (s : ByteArray) : Obj := .cells #[.int .i64 ty, .int .i64 n, .string s] 23

theorem ok_impl (ty n : Int) (s : ByteArray) (w : World) : Calls Try.prog 8 #[V ty n s] w fun e w' => e = .returned (.bool (okB ty n s)) ∧ ∃ k, w' = ((w.alloc (cellsV ty n s)).alloc (cellsV ty n s)).drewN k := by
  go_enter Try.func8, Try.ntmps8
  go_wp2_with (go_at_call 12; refine (within_any _ _ _ _).mono ?_; rintro e w' ⟨rfl, k, rfl⟩)
  go_ret
  exact ⟨rfl, _, rfl⟩

theorem toVal_any (ty n : Int) (s : ByteArray) (w : World) : Calls Try.prog 7 #[V ty n s] w fun e w' => e = .returned (V ty n s) ∧ w' = ((w.alloc (cellsL ty n s)).alloc (cellsV ty n s)).alloc (cellsV ty n s) := by
  go_enter Try.func7, Try.ntmps7
  go_wp2
  exact bodyPost_ret (v := V ty n s) (by simp [results, Try.results7, go_sem]) rfl ⟨rfl, rfl⟩

theorem sz_no (ty n : Int) (s : ByteArray) (l : Int) (w : World) (hs : s.size ≤ maxLen) (h0 : 0 ≤ l) (h : l < s.size) : Calls Try.prog 5 #[V ty n s, .int .i64 l] w fun e w' => e = .returned (.int .i64 (-1)) ∧ w' = w.alloc (cellsL ty n s) := by
  unfold maxLen at hs
  go_enter Try.func5, Try.ntmps5
  go_wp2
  go_ret
  exact ⟨rfl, rfl⟩
theorem sz_yes (ty n : Int) (s : ByteArray) (l : Int) (w : World) (h1 : l ≤ 1048576) (h : s.size ≤ l) : Calls Try.prog 5 #[V ty n s, .int .i64 l] w fun e w' => e = .returned (.int .i64 (l - s.size)) ∧ w' = w.alloc (cellsL ty n s) := by
  go_enter Try.func5, Try.ntmps5
  go_wp2
  go_ret
  exact ⟨rfl, rfl⟩
end Go.Proofs.Ytmgoplamocgflaf
