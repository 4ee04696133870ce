/- Whether a change is right: the given DdlOk. -/
import Derived.Test.YtiijahoheajppaaDd
import Derived.Test.YtiijahoheajppaaTbOkS
namespace Go.Proofs.Ytiijahoheajppaa
open Go.ChangeShapes Go.WideShapes Go.ChangeAt Go.RowKit

/-- A text is empty. -/
def noneB (s : ByteArray) : Bool := s.toList.isEmpty
/-- A change is right. -/
def Dc.right (d : Dc) : Prop := wordB d.table = true ∧
  ((d.kind = 1 ∧ noneB d.name = true ∧ noneB d.to = true ∧ Tc.right ⟨d.table, d.cols, d.keys⟩) ∨
  (d.kind = 2 ∧ d.cols.length = 0 ∧ d.keys.length = 0 ∧ noneB d.name = true ∧ noneB d.to = true) ∨
  (d.kind = 3 ∧ d.cols.length = 1 ∧ (∀ (h : 0 < d.cols.length), d.cols[0].ok = true ∧ (d.cols[0].has = true ∨ d.cols[0].nt = false)) ∧ d.keys.length = 0 ∧ noneB d.name = true ∧ noneB d.to = true) ∨
  (d.kind = 4 ∧ d.cols.length = 0 ∧ d.keys.length = 0 ∧ wordB d.name = true ∧ noneB d.to = true) ∨
  (d.kind = 5 ∧ d.cols.length = 0 ∧ d.keys.length = 0 ∧ wordB d.name = true ∧ wordB d.to = true))

end Go.Proofs.Ytiijahoheajppaa
