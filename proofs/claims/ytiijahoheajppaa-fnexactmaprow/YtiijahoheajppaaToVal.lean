/- The laws' copy of a value, and its size. -/
import Derived.Test.YtiijahoheajppaaCellsV
namespace Go.Proofs.Ytiijahoheajppaa
open Go.ChangeShapes Go.WideShapes Go.ChangeAt Go.RowKit

abbrev cellsL (ty n : Int) (s : ByteArray) : Obj := .cells #[.int .i64 ty, .int .i64 n, .string s] 71

theorem toVal_any (ty n : Int) (s : ByteArray) (w : World) : Calls Try.prog 45 #[V ty n s] w fun e w' => e = .returned (V ty n s) ∧ w' = ((w.alloc (cellsL ty n s)).alloc (cellsV ty n s)).alloc (cellsV ty n s) := by
  go_enter Try.func45, Try.ntmps45
  go_wp2
  exact bodyPost_ret (v := V ty n s) (by simp [results, Try.results45, go_sem]) rfl ⟨rfl, rfl⟩

theorem sz_no (ty n : Int) (s : ByteArray) (l : Int) (w : World) (hs : s.size ≤ maxLen) (h0 : 0 ≤ l) (h : l < s.size) : Calls Try.prog 43 #[V ty n s, .int .i64 l] w fun e w' => e = .returned (.int .i64 (-1)) ∧ w' = w.alloc (cellsL ty n s) := by
  unfold maxLen at hs
  go_enter Try.func43, Try.ntmps43
  go_wp2
  go_ret
  exact ⟨rfl, rfl⟩
theorem sz_yes (ty n : Int) (s : ByteArray) (l : Int) (w : World) (h1 : l ≤ 1048576) (h : s.size ≤ l) : Calls Try.prog 43 #[V ty n s, .int .i64 l] w fun e w' => e = .returned (.int .i64 (l - s.size)) ∧ w' = w.alloc (cellsL ty n s) := by
  go_enter Try.func43, Try.ntmps43
  go_wp2
  go_ret
  exact ⟨rfl, rfl⟩
end Go.Proofs.Ytiijahoheajppaa
