/- Lists of records among the arguments, opened. -/
import Derived.Test.YtmcjchaokpcomaaOpenL
import Derived.Test.YtmcjchaokpcomaaRl
namespace Go.Proofs.Ytmcjchaokpcomaa
open Go.ChangeShapes Go.WideShapes Go.ChangeAt Go.RowKit
section
variable {H : Type} {enc : TypeId × Value → H} {w : World} {base : Nat} {spare : Nat → Bool} {held : Bool}
theorem open_recs {n : Nat} {cs : List Value} {y : DataW H × List MemPlace} (h : DataW.trod enc Try.prog w base spare held n 48 cs = some y) : ∃ v ts, cs = [v] ∧ RecsV w v ts ∧ lfits ts := by
  obtain ⟨a, L, cap, rfl, h1, h2, h3, h4⟩ := open_row (fun p : { q : Array Value × Lc // q.1.size = 12 } => p.1.1) (fun p => RecV w p.1.1 p.1.2 ∧ p.1.2.fit) (z := 12) (fun p => p.2) (by omega) Try.underlying48 cellsLc (fun n cs y h => by
    obtain ⟨x, t, rfl, hx, hf⟩ := open_rec h
    exact ⟨⟨(x, t), hx.size⟩, rfl, hx, hf⟩) h
  refine ⟨_, L.map (fun p => p.1.2), rfl, ⟨a, cap, L.map (fun p => p.1.1), by simp, by simpa using h1, h2, h3, by simp, fun i hi hg => ?_⟩, fun t ht => ?_⟩
  · simp only [List.getElem_map]
    exact (h4 _ (List.getElem_mem _)).1
  · obtain ⟨p, hp, rfl⟩ := List.mem_map.1 ht
    exact (h4 p hp).2
end
end Go.Proofs.Ytmcjchaokpcomaa
