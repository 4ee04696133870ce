/- Stores among the arguments, opened. -/
import Derived.Test.YtbpdbhchnpnabalOpenRs
import Derived.Test.YtbpdbhchnpnabalOpenK
import Derived.Test.YtbpdbhchnpnabalDb
namespace Go.Proofs.Ytbpdbhchnpnabal
open Go.ChangeShapes Go.WideShapes Go.ChangeAt Go.RowKit
theorem cellsDb : Try.prog.cellsOf 96 = 1 ∧ Try.prog.cellsOf 94 = 1 ∧ Try.prog.cellsOf 25 = 1 ∧ Try.prog.cellsOf 27 = 2 := ⟨by kernel_rfl, by kernel_rfl, by kernel_rfl, by kernel_rfl⟩
section
variable {H : Type} {enc : TypeId × Value → H} {w : World} {base : Nat} {spare : Nat → Bool} {held : Bool}
set_option maxRecDepth 100000 in
theorem open_rowsOne {n : Nat} {cs : List Value} {y : DataW H × List MemPlace} (h : DataW.trod enc Try.prog w base spare held n 96 cs = some y) : ∃ v rs, cs = [v] ∧ RowsV w v rs ∧ rfits rs := by
  obtain ⟨xs, k, rfl, rfl, hl, hlen, hf⟩ := DataW.trod_struct Try.underlying96 h
  obtain ⟨z1, z2, _⟩ := cellsDb
  rw [z1] at hl
  have h0 : DataW.trod enc Try.prog w base spare held k 94 ((cs.drop 0).take (Try.prog.cellsOf 94)) = xs[0]? := hf 0 _ rfl
  match xs, hlen, cs, hl with
  | [x0], _, [a0], _ =>
    simp only [z2] at h0
    obtain ⟨v, vs, e, hv, hft⟩ := open_rows (h0.trans rfl)
    simp at e
    exact ⟨v, vs, by rw [e], hv, hft⟩
theorem open_data {n : Nat} {cs : List Value} {y : DataW H × List MemPlace} (h : DataW.trod enc Try.prog w base spare held n 25 cs = some y) : ∃ v ds, cs = [v] ∧ DataV w v ds ∧ dfits ds := by
  obtain ⟨a, L, cap, rfl, h1, h2, h3, h4⟩ := open_row (fun p : Value × List (List Vc) => one1 p.1) (fun p => RowsV w p.1 p.2 ∧ rfits p.2) (z := 1) (fun p => rfl) (by omega) Try.underlying25 cellsDb.1 (fun n cs y h => by
    obtain ⟨v, vs, rfl, hv, hf⟩ := open_rowsOne h
    exact ⟨(v, vs), rfl, hv, hf⟩) h
  refine ⟨_, L.map (fun p => p.2), rfl, ⟨a, cap, L.map (fun p => p.1), by simp, by simpa using h1, h2, by rw [List.map_map]; exact h3, by simp, fun i hi hg => ?_⟩, fun t ht => ?_⟩
  · simp only [List.getElem_map]
    exact (h4 _ (List.getElem_mem _)).1
  · obtain ⟨p, hp, rfl⟩ := List.mem_map.1 ht
    exact (h4 p hp).2
set_option maxRecDepth 100000 in
theorem open_db {n : Nat} {cs : List Value} {y : DataW H × List MemPlace} (h : DataW.trod enc Try.prog w base spare held n 27 cs = some y) : ∃ cv dv ts ds, cs = [cv, dv] ∧ TabsV w cv ts ∧ DataV w dv ds ∧ fits ts ∧ dfits ds := by
  obtain ⟨xs, k, rfl, rfl, hl, hlen, hf⟩ := DataW.trod_struct Try.underlying27 h
  obtain ⟨_, _, z3, z4⟩ := cellsDb
  obtain ⟨y1, _⟩ := cellsK
  rw [z4] at hl
  have h0 : DataW.trod enc Try.prog w base spare held k 24 ((cs.drop 0).take (Try.prog.cellsOf 24)) = xs[0]? := hf 0 _ rfl
  have h1 : DataW.trod enc Try.prog w base spare held k 25 ((cs.drop 1).take (Try.prog.cellsOf 25)) = xs[1]? := hf 1 _ rfl
  match xs, hlen, cs, hl with
  | [x0, x1], _, [a0, a1], _ =>
    simp only [z3, y1] at h0 h1
    obtain ⟨v, ts, e, hv, hft⟩ := open_cat (h0.trans rfl)
    obtain ⟨u, ds, e', hu, hgt⟩ := open_data (h1.trans rfl)
    simp at e e'
    exact ⟨v, u, ts, ds, by rw [e, e'], hv, hu, hft, hgt⟩
end
end Go.Proofs.Ytbpdbhchnpnabal
