/- Statements among the arguments, opened. -/
import Derived.Test.YtmcjchaokpcomaaOpenR
import Derived.Test.YtmcjchaokpcomaaOpenD
import Derived.Test.YtmcjchaokpcomaaSt
namespace Go.Proofs.Ytmcjchaokpcomaa
open Go.ChangeShapes Go.WideShapes Go.ChangeAt Go.RowKit
theorem cellsSt : Try.prog.cellsOf 30 = 10 := by kernel_rfl
section
variable {H : Type} {enc : TypeId × Value → H} {w : World} {base : Nat} {spare : Nat → Bool} {held : Bool}
set_option maxRecDepth 100000 in
theorem open_stmt {n : Nat} {cs : List Value} {y : DataW H × List MemPlace} (h : DataW.trod enc Try.prog w base spare held n 30 cs = some y) : ∃ (x : Array Value) (t : Sc), cs = x.toList ∧ StmtV w x t ∧ t.fit := by
  obtain ⟨xs, k, rfl, rfl, hl, hlen, hf⟩ := DataW.trod_struct Try.underlying30 h
  obtain ⟨z1, z2⟩ := cellsR
  obtain ⟨y1, y2, _⟩ := cells1
  have z3 := cellsD
  rw [cellsSt] at hl
  have h0 : DataW.trod enc Try.prog w base spare held k 3 ((cs.drop 0).take (Try.prog.cellsOf 3)) = xs[0]? := hf 0 _ rfl
  have h1 : DataW.trod enc Try.prog w base spare held k 9 ((cs.drop 1).take (Try.prog.cellsOf 9)) = xs[1]? := hf 1 _ rfl
  have h2 : DataW.trod enc Try.prog w base spare held k 22 ((cs.drop 2).take (Try.prog.cellsOf 22)) = xs[2]? := hf 2 _ rfl
  have h3 : DataW.trod enc Try.prog w base spare held k 24 ((cs.drop 3).take (Try.prog.cellsOf 24)) = xs[3]? := hf 3 _ rfl
  have h4 : DataW.trod enc Try.prog w base spare held k 28 ((cs.drop 4).take (Try.prog.cellsOf 28)) = xs[4]? := hf 4 _ rfl
  match xs, hlen, cs, hl with
  | [x0, x1, x2, x3, x4], _, [a0, a1, a2, a3, a4, a5, a6, a7, a8, a9], _ =>
    simp only [z1, z2, z3, y1, y2] at h0 h1 h2 h3 h4
    obtain ⟨n0, e0, _, _⟩ := DataW.trod_int Try.underlying3 (h0.trans rfl)
    obtain ⟨s1, e1, _, hs1⟩ := DataW.trod_string Try.underlying9 (h1.trans rfl)
    obtain ⟨kv, ks, e2, hk, hkf⟩ := open_vals (h2.trans rfl)
    obtain ⟨rv, rs, e3, hr, hrf⟩ := open_rw (h3.trans rfl)
    obtain ⟨dx, dc, e4, hd, hdf⟩ := open_ddl (h4.trans rfl)
    obtain ⟨cv, sv, rfl, hc, ho⟩ := hd
    simp at e0 e1 e2 e3 e4
    obtain ⟨e4, e5, e6, e7, e8, e9⟩ := e4
    exact ⟨Sc.cells ⟨n0, s1, ks, rs, dc⟩ kv rv cv sv, ⟨n0, s1, ks, rs, dc⟩, by simp [e0, e1, e2, e3, e4, e5, e6, e7, e8, e9], ⟨kv, rv, cv, sv, rfl, hk, hr, hc, ho⟩, hs1, hkf, hrf, hdf⟩
end
end Go.Proofs.Ytmcjchaokpcomaa
