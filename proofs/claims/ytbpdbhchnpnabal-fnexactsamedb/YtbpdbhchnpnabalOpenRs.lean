/- Rows among the arguments, opened. -/
import Derived.Test.YtbpdbhchnpnabalOpenR
import Derived.Test.YtbpdbhchnpnabalRs
namespace Go.Proofs.Ytbpdbhchnpnabal
open Go.ChangeShapes Go.WideShapes Go.ChangeAt Go.RowKit
section
variable {H : Type} {enc : TypeId × Value → H} {w : World} {base : Nat} {spare : Nat → Bool} {held : Bool}
theorem open_rows {n : Nat} {cs : List Value} {y : DataW H × List MemPlace} (h : DataW.trod enc Try.prog w base spare held n 94 cs = some y) : ∃ v rs, cs = [v] ∧ RowsV w v rs ∧ rfits rs := by
  obtain ⟨a, L, cap, rfl, h1, h2, h3, h4⟩ := open_row (fun p : Value × List Vc => one1 p.1) (fun p => ValsV w p.1 p.2 ∧ vfit p.2) (z := 1) (fun p => rfl) (by omega) Try.underlying94 cellsR.1 (fun n cs y h => by
    obtain ⟨v, vs, rfl, hv, hf⟩ := open_rw h
    exact ⟨(v, vs), rfl, hv, hf⟩) h
  refine ⟨_, L.map (fun p => p.2), rfl, ⟨a, cap, L.map (fun p => p.1), by simp, by simpa using h1, h2, by rw [List.map_map]; exact h3, by simp, fun i hi hg => ?_⟩, fun t ht => ?_⟩
  · simp only [List.getElem_map]
    exact (h4 _ (List.getElem_mem _)).1
  · obtain ⟨p, hp, rfl⟩ := List.mem_map.1 ht
    exact (h4 p hp).2
end
end Go.Proofs.Ytbpdbhchnpnabal
