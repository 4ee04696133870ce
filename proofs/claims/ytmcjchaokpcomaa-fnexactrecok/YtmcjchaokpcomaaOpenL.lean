/- Records among the arguments, opened. -/
import Derived.Test.YtmcjchaokpcomaaOpenSt
import Derived.Test.YtmcjchaokpcomaaRe
namespace Go.Proofs.Ytmcjchaokpcomaa
open Go.ChangeShapes Go.WideShapes Go.ChangeAt Go.RowKit
theorem cellsLc : Try.prog.cellsOf 32 = 12 := by kernel_rfl
section
variable {H : Type} {enc : TypeId × Value → H} {w : World} {base : Nat} {spare : Nat → Bool} {held : Bool}
set_option maxRecDepth 100000 in
theorem open_rec {n : Nat} {cs : List Value} {y : DataW H × List MemPlace} (h : DataW.trod enc Try.prog w base spare held n 32 cs = some y) : ∃ (x : Array Value) (t : Lc), cs = x.toList ∧ RecV w x t ∧ t.fit := by
  obtain ⟨xs, k, rfl, rfl, hl, hlen, hf⟩ := DataW.trod_struct Try.underlying32 h
  obtain ⟨_, y2, _⟩ := cells1
  have z3 := cellsSt
  rw [cellsLc] at hl
  have h0 : DataW.trod enc Try.prog w base spare held k 3 ((cs.drop 0).take (Try.prog.cellsOf 3)) = xs[0]? := hf 0 _ rfl
  have h1 : DataW.trod enc Try.prog w base spare held k 3 ((cs.drop 1).take (Try.prog.cellsOf 3)) = xs[1]? := hf 1 _ rfl
  have h2 : DataW.trod enc Try.prog w base spare held k 30 ((cs.drop 2).take (Try.prog.cellsOf 30)) = xs[2]? := hf 2 _ rfl
  match xs, hlen, cs, hl with
  | [x0, x1, x2], _, [a0, a1, a2, a3, a4, a5, a6, a7, a8, a9, a10, a11], _ =>
    simp only [z3, y2] at h0 h1 h2
    obtain ⟨n0, e0, _, _⟩ := DataW.trod_int Try.underlying3 (h0.trans rfl)
    obtain ⟨n1, e1, _, _⟩ := DataW.trod_int Try.underlying3 (h1.trans rfl)
    obtain ⟨sx, sc, e2, hs, hsf⟩ := open_stmt (h2.trans rfl)
    obtain ⟨kv, rv, cv, sv, rfl, hk, hr, hc, ho⟩ := hs
    simp at e0 e1 e2
    obtain ⟨e2, e3, e4, e5, e6, e7, e8, e9, e10, e11⟩ := e2
    exact ⟨Lc.cells ⟨n0, n1, sc⟩ kv rv cv sv, ⟨n0, n1, sc⟩, by simp [e0, e1, e2, e3, e4, e5, e6, e7, e8, e9, e10, e11], ⟨kv, rv, cv, sv, rfl, hk, hr, hc, ho⟩, hsf⟩
end
end Go.Proofs.Ytmcjchaokpcomaa
