/- Tables among the arguments, opened. -/
import Derived.Test.YtiijahoheajppaaOpenC
import Derived.Test.YtiijahoheajppaaTab
namespace Go.Proofs.Ytiijahoheajppaa
open Go.ChangeShapes Go.WideShapes Go.ChangeAt Go.RowKit
theorem cellsT2 : Try.prog.cellsOf 23 = 1 ∧ Try.prog.cellsOf 22 = 1 := ⟨by kernel_rfl, by kernel_rfl⟩
theorem cellsT : Try.prog.cellsOf 23 = 1 ∧ Try.prog.cellsOf 22 = 1 ∧ Try.prog.cellsOf 25 = 3 := ⟨by kernel_rfl, by kernel_rfl, by kernel_rfl⟩
section
variable {H : Type} {enc : TypeId × Value → H} {w : World} {base : Nat} {spare : Nat → Bool} {held : Bool}
theorem open_cols {n : Nat} {cs : List Value} {y : DataW H × List MemPlace} (h : DataW.trod enc Try.prog w base spare held n 23 cs = some y) : ∃ v L, cs = [v] ∧ ColsV w v L ∧ ∀ c ∈ L, c.name.size ≤ maxLen ∧ c.ds.size ≤ maxLen := by
  obtain ⟨a, L, cap, rfl, h1, h2, h3, h4⟩ := open_row Cl.cells (fun c : Cl => c.name.size ≤ maxLen ∧ c.ds.size ≤ maxLen) (z := 7) (fun _ => rfl) (by omega) Try.underlying23 cells1.2.2.2.2 (fun n cs y h => open_col h) h
  exact ⟨_, L, rfl, ⟨a, cap, rfl, h1, h2, h3⟩, h4⟩
theorem open_strs {n : Nat} {cs : List Value} {y : DataW H × List MemPlace} (h : DataW.trod enc Try.prog w base spare held n 22 cs = some y) : ∃ v L, cs = [v] ∧ StrsV w v L ∧ ∀ s ∈ L, s.size ≤ maxLen := by
  obtain ⟨a, L, cap, rfl, h1, h2, h3, h4⟩ := open_row strX (fun s : ByteArray => s.size ≤ maxLen) (z := 1) (fun _ => rfl) (by omega) Try.underlying22 cells1.1 (fun n cs y h => by
    obtain ⟨s, rfl, _, hs⟩ := DataW.trod_string Try.underlying9 h; exact ⟨s, rfl, hs⟩) h
  exact ⟨_, L, rfl, ⟨a, cap, rfl, h1, h2, h3⟩, h4⟩
set_option maxRecDepth 100000 in
theorem open_tab {n : Nat} {cs : List Value} {y : DataW H × List MemPlace} (h : DataW.trod enc Try.prog w base spare held n 25 cs = some y) : ∃ (x : Array Value) (t : Tc), cs = x.toList ∧ TabV w x t ∧ t.fit := by
  obtain ⟨xs, k, rfl, rfl, hl, hlen, hf⟩ := DataW.trod_struct Try.underlying25 h
  obtain ⟨z1, z2, z3⟩ := cellsT
  rw [z3] at hl
  have h0 : DataW.trod enc Try.prog w base spare held k 9 ((cs.drop 0).take (Try.prog.cellsOf 9)) = xs[0]? := hf 0 _ rfl
  have h1 : DataW.trod enc Try.prog w base spare held k 23 ((cs.drop 1).take (Try.prog.cellsOf 23)) = xs[1]? := hf 1 _ rfl
  have h2 : DataW.trod enc Try.prog w base spare held k 22 ((cs.drop 2).take (Try.prog.cellsOf 22)) = xs[2]? := hf 2 _ rfl
  match xs, hlen, cs, hl with
  | [x0, x1, x2], _, [a0, a1, a2], _ =>
    simp only [z1, z2, cells1.1] at h0 h1 h2
    obtain ⟨s, e0, _, hs⟩ := DataW.trod_string Try.underlying9 (h0.trans rfl)
    obtain ⟨cv, cs, e1, hc, hcf⟩ := open_cols (h1.trans rfl)
    obtain ⟨kv, ks, e2, hk, hkf⟩ := open_strs (h2.trans rfl)
    simp at e0 e1 e2
    exact ⟨#[.string s, cv, kv], ⟨s, cs, ks⟩, by rw [e0, e1, e2], ⟨cv, kv, rfl, hc, hk⟩, hs, hcf, hkf⟩
end
end Go.Proofs.Ytiijahoheajppaa
