/- Values and rows among the arguments, opened. -/
import Derived.Test.YtmcjchaokpcomaaOpenC
import Derived.Test.YtmcjchaokpcomaaVs
namespace Go.Proofs.Ytmcjchaokpcomaa
open Go.ChangeShapes Go.WideShapes Go.ChangeAt Go.RowKit
section
variable {H : Type} {enc : TypeId × Value → H} {w : World} {base : Nat} {spare : Nat → Bool} {held : Bool}
theorem open_vals {n : Nat} {cs : List Value} {y : DataW H × List MemPlace} (h : DataW.trod enc Try.prog w base spare held n 22 cs = some y) : ∃ v L, cs = [v] ∧ ValsV w v L ∧ vfit L := by
  obtain ⟨a, L, cap, rfl, h1, h2, h3, h4⟩ := open_row Vc.cells (fun c : Vc => c.s.size ≤ maxLen) (z := 3) (fun _ => rfl) (by omega) Try.underlying22 cells1.2.2.2.1 (fun n cs y h => by
    obtain ⟨t, m, s, rfl, hs⟩ := open_val h; exact ⟨⟨t, m, s⟩, rfl, hs⟩) h
  exact ⟨_, L, rfl, ⟨a, cap, rfl, h1, h2, h3⟩, h4⟩
end
end Go.Proofs.Ytmcjchaokpcomaa
