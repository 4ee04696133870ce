/- Values and rows among the arguments, opened. A row among the arguments, opened. -/
import Derived.Test.YtbpdbhchnpnabalOpenC
import Derived.Test.YtbpdbhchnpnabalVs
namespace Go.Proofs.Ytbpdbhchnpnabal
open Go.ChangeShapes Go.WideShapes Go.ChangeAt Go.RowKit
section
variable {H : Type} {enc : TypeId × Value → H} {w : World} {base : Nat} {spare : Nat → Bool} {held : Bool}
theorem open_vals {n : Nat} {cs : List Value} {y : DataW H × List MemPlace} (h : DataW.trod enc Try.prog w base spare held n 40 cs = some y) : ∃ v L, cs = [v] ∧ ValsV w v L ∧ vfit L := by
  obtain ⟨a, L, cap, rfl, h1, h2, h3, h4⟩ := open_row Vc.cells (fun c : Vc => c.s.size ≤ maxLen) (z := 3) (fun _ => rfl) (by omega) Try.underlying40 cells1.2.2.2.1 (fun n cs y h => by
    obtain ⟨t, m, s, rfl, hs⟩ := open_val h; exact ⟨⟨t, m, s⟩, rfl, hs⟩) h
  exact ⟨_, L, rfl, ⟨a, cap, rfl, h1, h2, h3⟩, h4⟩
end
end Go.Proofs.Ytbpdbhchnpnabal

namespace Go.Proofs.Ytbpdbhchnpnabal
open Go.ChangeShapes Go.WideShapes Go.ChangeAt Go.RowKit
theorem cellsR : Try.prog.cellsOf 42 = 1 ∧ Try.prog.cellsOf 40 = 1 := ⟨by kernel_rfl, by kernel_rfl⟩
section
variable {H : Type} {enc : TypeId × Value → H} {w : World} {base : Nat} {spare : Nat → Bool} {held : Bool}
set_option maxRecDepth 100000 in
theorem open_rw {n : Nat} {cs : List Value} {y : DataW H × List MemPlace} (h : DataW.trod enc Try.prog w base spare held n 42 cs = some y) : ∃ v vs, cs = [v] ∧ ValsV w v vs ∧ vfit vs := by
  obtain ⟨xs, k, rfl, rfl, hl, hlen, hf⟩ := DataW.trod_struct Try.underlying42 h
  obtain ⟨z1, z2⟩ := cellsR
  rw [z1] at hl
  have h0 : DataW.trod enc Try.prog w base spare held k 40 ((cs.drop 0).take (Try.prog.cellsOf 40)) = xs[0]? := hf 0 _ rfl
  match xs, hlen, cs, hl with
  | [x0], _, [a0], _ =>
    simp only [z2] at h0
    obtain ⟨v, vs, e, hv, hft⟩ := open_vals (h0.trans rfl)
    simp at e
    exact ⟨v, vs, by rw [e], hv, hft⟩
end
end Go.Proofs.Ytbpdbhchnpnabal
