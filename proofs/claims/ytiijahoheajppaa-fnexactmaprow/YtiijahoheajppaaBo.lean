/- A Bool for a Prop. -/
import Derived.Test.YtiijahoheajppaaCh
namespace Go.Proofs.Ytiijahoheajppaa
theorem bool_of (p : Prop) : ∃ q : Bool, q = true ↔ p := by
  by_cases h : p
  · exact ⟨true, by simp [h]⟩
  · exact ⟨false, by simp [h]⟩
end Go.Proofs.Ytiijahoheajppaa
