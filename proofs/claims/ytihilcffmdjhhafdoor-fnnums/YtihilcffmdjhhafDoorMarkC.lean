/- Rows marked: columns. -/
import Derived.Test.YtihilcffmdjhhafDoorMarkS
namespace Go.Proofs.YtihilcffmdjhhafDoor
open Go.ChangeShapes Go.WideShapes Go.ChangeAt Go.RowKit

/-- What a mark leaves in a cell of a row of columns. -/
def markC (k c : Nat) : Value := match c % 7 with
  | 0 => .string (markB (k + c))
  | 1 => .int .i64 ((k + c : Nat) : Int)
  | 2 => .bool ((k + c) % 3 == 0)
  | 3 => .bool ((k + c) % 3 == 0)
  | 4 => .int .i64 ((k + c : Nat) : Int)
  | 5 => .int .i64 ((k + c : Nat) : Int)
  | _ => .string (markB (k + c))

theorem markC_all (k j K : Nat) (h : K = k + j * 7) : markC k (j * 7) = .string (markB K) ∧ markC k (j * 7 + 1) = .int .i64 ((K : Int) + 1) ∧ markC k (j * 7 + 2) = .bool (((K : Int) + 1 + 1) % 3 == 0) ∧ markC k (j * 7 + 3) = .bool (((K : Int) + 1 + 1 + 1) % 3 == 0) ∧ markC k (j * 7 + 4) = .int .i64 ((K : Int) + 1 + 1 + 1 + 1) ∧ markC k (j * 7 + 5) = .int .i64 ((K : Int) + 1 + 1 + 1 + 1 + 1) ∧ markC k (j * 7 + 6) = .string (markB (K + 6)) := by
  have e0 : (j * 7) % 7 = 0 := by omega
  have e1 : (j * 7 + 1) % 7 = 1 := by omega
  have e2 : (j * 7 + 2) % 7 = 2 := by omega
  have e3 : (j * 7 + 3) % 7 = 3 := by omega
  have e4 : (j * 7 + 4) % 7 = 4 := by omega
  have e5 : (j * 7 + 5) % 7 = 5 := by omega
  have e6 : (j * 7 + 6) % 7 = 6 := by omega
  have b2 : ((k + (j * 7 + 2)) % 3 == 0) = (((K : Int) + 1 + 1) % 3 == 0) := by rw [Bool.eq_iff_iff]; simp; omega
  have b3 : ((k + (j * 7 + 3)) % 3 == 0) = (((K : Int) + 1 + 1 + 1) % 3 == 0) := by rw [Bool.eq_iff_iff]; simp; omega
  refine ⟨?_, ?_, ?_, ?_, ?_, ?_, ?_⟩
  · simp only [markC, e0]; rw [h]
  · simp only [markC, e1]; congr 1; omega
  · simp only [markC, e2]; rw [b2]
  · simp only [markC, e3]; rw [b3]
  · simp only [markC, e4]; congr 1; omega
  · simp only [markC, e5]; congr 1; omega
  · simp only [markC, e6]; rw [h]; congr 2

end Go.Proofs.YtihilcffmdjhhafDoor
