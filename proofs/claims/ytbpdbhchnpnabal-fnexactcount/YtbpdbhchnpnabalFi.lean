/- The landed search of a row by its key: find. -/
import Derived.Test.YtbpdbhchnpnabalRaI
import Derived.Test.YtbpdbhchnpnabalRs
import Derived.Deep.LoopGhost
import Derived.WalkMore
namespace Go.Proofs.Ytbpdbhchnpnabal
open Go.ChangeShapes Go.WideShapes Go.ChangeAt Go.RowKit

/-- The first place of a key among keys; -1 where there is none. -/
def IsAt (ks : List (List Vc)) (key : List Vc) (r : Int) : Prop := (r = -1 ∧ ∀ i (h : i < ks.length), ks[i] ≠ key) ∨ ∃ k : Nat, ∃ h : k < ks.length, r = k ∧ ks[k] = key ∧ ∀ i (g : i < ks.length), i < k → ks[i] ≠ key
theorem isAt_one {ks : List (List Vc)} {key : List Vc} {r s : Int} (h : IsAt ks key r) (g : IsAt ks key s) : r = s := by
  rcases h with ⟨rfl, h⟩ | ⟨k, hk, rfl, he, hn⟩
  · rcases g with ⟨rfl, _⟩ | ⟨j, hj, rfl, he', _⟩
    · rfl
    · exact absurd he' (h j hj)
  · rcases g with ⟨rfl, g⟩ | ⟨j, hj, rfl, he', hn'⟩
    · exact absurd he (g k hk)
    · by_cases h1 : k < j
      · exact absurd he (hn' k hk h1)
      · by_cases h2 : j < k
        · exact absurd he' (hn j hj h2)
        · have : k = j := by omega
          rw [this]

end Go.Proofs.Ytbpdbhchnpnabal
