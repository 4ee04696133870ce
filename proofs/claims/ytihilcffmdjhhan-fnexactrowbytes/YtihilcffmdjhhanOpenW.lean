/- Values among the arguments, opened; no column is asked for. -/
import Derived.Test.YtihilcffmdjhhanOpenC
import Derived.Test.YtihilcffmdjhhanVs
namespace Go.Proofs.Ytihilcffmdjhhan
open Go.ChangeShapes Go.WideShapes Go.ChangeAt Go.RowKit
theorem cells3 : Try.prog.cellsOf 9 = 1 ∧ Try.prog.cellsOf 3 = 1 ∧ Try.prog.cellsOf 32 = 3 := ⟨by kernel_rfl, by kernel_rfl, by kernel_rfl⟩
section
variable {H : Type} {enc : TypeId × Value → H} {w : World} {base : Nat} {spare : Nat → Bool} {held : Bool}
set_option maxRecDepth 100000 in
/-- A value, opened. -/
theorem open_valW {n : Nat} {cs : List Value} {y : DataW H × List MemPlace} (h : DataW.trod enc Try.prog w base spare held n 32 cs = some y) : ∃ (t m : Int) (s : ByteArray), cs = [.int .i64 t, .int .i64 m, .string s] ∧ s.size ≤ maxLen := by
  obtain ⟨xs, k, rfl, rfl, hl, hlen, hf⟩ := DataW.trod_struct Try.underlying32 h
  obtain ⟨z1, z2, z4⟩ := cells3
  rw [z4] at hl
  have h0 : DataW.trod enc Try.prog w base spare held k 3 ((cs.drop 0).take (Try.prog.cellsOf 3)) = xs[0]? := hf 0 _ rfl
  have h1 : DataW.trod enc Try.prog w base spare held k 3 ((cs.drop 1).take (Try.prog.cellsOf 3)) = xs[1]? := hf 1 _ rfl
  have h2 : DataW.trod enc Try.prog w base spare held k 9 ((cs.drop 2).take (Try.prog.cellsOf 9)) = xs[2]? := hf 2 _ rfl
  match xs, hlen, cs, hl with
  | [x0, x1, x2], _, [a0, a1, a2], _ =>
    simp only [z1, z2] at h0 h1 h2
    obtain ⟨t, e0, _, _⟩ := DataW.trod_int Try.underlying3 (h0.trans rfl)
    obtain ⟨m, e1, _, _⟩ := DataW.trod_int Try.underlying3 (h1.trans rfl)
    obtain ⟨s, e2, _, hs⟩ := DataW.trod_string Try.underlying9 (h2.trans rfl)
    simp at e0 e1 e2
    exact ⟨t, m, s, by rw [e0, e1, e2], hs⟩
theorem open_valsW {n : Nat} {cs : List Value} {y : DataW H × List MemPlace} (h : DataW.trod enc Try.prog w base spare held n 38 cs = some y) : ∃ v L, cs = [v] ∧ ValsV w v L ∧ vfit L := by
  obtain ⟨a, L, cap, rfl, h1, h2, h3, h4⟩ := open_row Vc.cells (fun c : Vc => c.s.size ≤ maxLen) (z := 3) (fun _ => rfl) (by omega) Try.underlying38 cells3.2.2 (fun n cs y h => by
    obtain ⟨t, m, s, rfl, hs⟩ := open_valW h; exact ⟨⟨t, m, s⟩, rfl, hs⟩) h
  exact ⟨_, L, rfl, ⟨a, cap, rfl, h1, h2, h3⟩, h4⟩
end
end Go.Proofs.Ytihilcffmdjhhan
