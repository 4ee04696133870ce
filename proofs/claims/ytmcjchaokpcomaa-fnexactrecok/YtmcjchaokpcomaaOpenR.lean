/- A row among the arguments, opened. -/
import Derived.Test.YtmcjchaokpcomaaOpenV
namespace Go.Proofs.Ytmcjchaokpcomaa
open Go.ChangeShapes Go.WideShapes Go.ChangeAt Go.RowKit
theorem cellsR : Try.prog.cellsOf 24 = 1 ∧ Try.prog.cellsOf 22 = 1 := ⟨by kernel_rfl, by kernel_rfl⟩
section
variable {H : Type} {enc : TypeId × Value → H} {w : World} {base : Nat} {spare : Nat → Bool} {held : Bool}
set_option maxRecDepth 100000 in
theorem open_rw {n : Nat} {cs : List Value} {y : DataW H × List MemPlace} (h : DataW.trod enc Try.prog w base spare held n 24 cs = some y) : ∃ v vs, cs = [v] ∧ ValsV w v vs ∧ vfit vs := by
  obtain ⟨xs, k, rfl, rfl, hl, hlen, hf⟩ := DataW.trod_struct Try.underlying24 h
  obtain ⟨z1, z2⟩ := cellsR
  rw [z1] at hl
  have h0 : DataW.trod enc Try.prog w base spare held k 22 ((cs.drop 0).take (Try.prog.cellsOf 22)) = xs[0]? := hf 0 _ rfl
  match xs, hlen, cs, hl with
  | [x0], _, [a0], _ =>
    simp only [z2] at h0
    obtain ⟨v, vs, e, hv, hft⟩ := open_vals (h0.trans rfl)
    simp at e
    exact ⟨v, vs, by rw [e], hv, hft⟩
end
end Go.Proofs.Ytmcjchaokpcomaa
