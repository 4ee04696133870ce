/- Whether a column is right: the given ColOk. -/
import Derived.Test.YtihilcffmdjhhafDoorCl
namespace Go.Proofs.YtihilcffmdjhhafDoor
open Go.ChangeShapes Go.WideShapes Go.ChangeAt Go.RowKit

/-- A column without a default. -/
def Cl.null (c : Cl) : Bool := c.dt == 0 && (c.dn == 0 && c.ds.toList.isEmpty)
/-- Whether a column is right. -/
def Cl.ok (c : Cl) : Bool := wordB c.name && (decide (1 ≤ c.ty) && decide (c.ty ≤ 3)) && (if c.has = false then c.null else okB c.dt c.dn c.ds && (c.null || c.dt == c.ty) && !(c.null && c.nt))
theorem Cl.null_cases (c : Cl) : ((c.dt == 0) = false) ∨ (c.dt = 0 ∧ (c.dn == 0) = false) ∨ (c.dt = 0 ∧ c.dn = 0 ∧ c.ds.toList.isEmpty = false) ∨ (c.dt = 0 ∧ c.dn = 0 ∧ c.ds.toList.isEmpty = true) := by
  cases h1 : c.dt == 0
  · exact Or.inl rfl
  · have h1 : c.dt = 0 := by simpa using h1
    cases h2 : c.dn == 0
    · exact Or.inr (Or.inl ⟨h1, rfl⟩)
    · have h2 : c.dn = 0 := by simpa using h2
      cases h3 : c.ds.toList.isEmpty
      · exact Or.inr (Or.inr (Or.inl ⟨h1, h2, rfl⟩))
      · exact Or.inr (Or.inr (Or.inr ⟨h1, h2, rfl⟩))
theorem ret_b {a b : Bool} (h : a = b) : Ending.returned (.bool a) = .returned (.bool b) := by rw [h]

end Go.Proofs.YtihilcffmdjhhafDoor
