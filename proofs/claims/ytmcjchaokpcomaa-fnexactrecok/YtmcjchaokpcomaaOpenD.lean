/- Changes among the arguments, opened. -/
import Derived.Test.YtmcjchaokpcomaaOpenT
import Derived.Test.YtmcjchaokpcomaaDd
namespace Go.Proofs.Ytmcjchaokpcomaa
open Go.ChangeShapes Go.WideShapes Go.ChangeAt Go.RowKit
theorem cellsD : Try.prog.cellsOf 28 = 6 := by kernel_rfl
section
variable {H : Type} {enc : TypeId × Value → H} {w : World} {base : Nat} {spare : Nat → Bool} {held : Bool}
set_option maxRecDepth 100000 in
theorem open_ddl {n : Nat} {cs : List Value} {y : DataW H × List MemPlace} (h : DataW.trod enc Try.prog w base spare held n 28 cs = some y) : ∃ (x : Array Value) (t : Dc), cs = x.toList ∧ DdlV w x t ∧ t.fit := by
  obtain ⟨xs, k, rfl, rfl, hl, hlen, hf⟩ := DataW.trod_struct Try.underlying28 h
  obtain ⟨z1, z2⟩ := cellsT2
  obtain ⟨y1, y2, _⟩ := cells1
  rw [cellsD] at hl
  have h0 : DataW.trod enc Try.prog w base spare held k 3 ((cs.drop 0).take (Try.prog.cellsOf 3)) = xs[0]? := hf 0 _ rfl
  have h1 : DataW.trod enc Try.prog w base spare held k 9 ((cs.drop 1).take (Try.prog.cellsOf 9)) = xs[1]? := hf 1 _ rfl
  have h2 : DataW.trod enc Try.prog w base spare held k 25 ((cs.drop 2).take (Try.prog.cellsOf 25)) = xs[2]? := hf 2 _ rfl
  have h3 : DataW.trod enc Try.prog w base spare held k 26 ((cs.drop 3).take (Try.prog.cellsOf 26)) = xs[3]? := hf 3 _ rfl
  have h4 : DataW.trod enc Try.prog w base spare held k 9 ((cs.drop 4).take (Try.prog.cellsOf 9)) = xs[4]? := hf 4 _ rfl
  have h5 : DataW.trod enc Try.prog w base spare held k 9 ((cs.drop 5).take (Try.prog.cellsOf 9)) = xs[5]? := hf 5 _ rfl
  match xs, hlen, cs, hl with
  | [x0, x1, x2, x3, x4, x5], _, [a0, a1, a2, a3, a4, a5], _ =>
    simp only [z1, z2, y1, y2] at h0 h1 h2 h3 h4 h5
    obtain ⟨n0, e0, _, _⟩ := DataW.trod_int Try.underlying3 (h0.trans rfl)
    obtain ⟨s1, e1, _, hs1⟩ := DataW.trod_string Try.underlying9 (h1.trans rfl)
    obtain ⟨cv, cs, e2, hc, hcf⟩ := open_cols (h2.trans rfl)
    obtain ⟨kv, ks, e3, hk, hkf⟩ := open_strs (h3.trans rfl)
    obtain ⟨s4, e4, _, hs4⟩ := DataW.trod_string Try.underlying9 (h4.trans rfl)
    obtain ⟨s5, e5, _, hs5⟩ := DataW.trod_string Try.underlying9 (h5.trans rfl)
    simp at e0 e1 e2 e3 e4 e5
    exact ⟨#[.int .i64 n0, .string s1, cv, kv, .string s4, .string s5], ⟨n0, s1, cs, ks, s4, s5⟩, by rw [e0, e1, e2, e3, e4, e5], ⟨cv, kv, rfl, hc, hk⟩, hs1, hcf, hkf, hs4, hs5⟩
end
end Go.Proofs.Ytmcjchaokpcomaa
