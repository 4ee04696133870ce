/- A Bool for a Prop. -/
import Derived.Test.YtmcjchaokpcomaaCh
namespace Go.Proofs.Ytmcjchaokpcomaa
theorem bool_of (p : Prop) : ∃ q : Bool, q = true ↔ p := by
  by_cases h : p
  · exact ⟨true, by simp [h]⟩
  · exact ⟨false, by simp [h]⟩
end Go.Proofs.Ytmcjchaokpcomaa
