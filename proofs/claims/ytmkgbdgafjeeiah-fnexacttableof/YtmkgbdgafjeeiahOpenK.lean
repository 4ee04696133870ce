/- Catalogs among the arguments, opened. -/
import Derived.Test.YtmkgbdgafjeeiahOpenT
import Derived.Test.YtmkgbdgafjeeiahCt
namespace Go.Proofs.Ytmkgbdgafjeeiah
open Go.ChangeShapes Go.WideShapes Go.ChangeAt Go.RowKit
theorem cellsK : Try.prog.cellsOf 47 = 1 ∧ Try.prog.cellsOf 45 = 1 := ⟨by kernel_rfl, by kernel_rfl⟩
section
variable {H : Type} {enc : TypeId × Value → H} {w : World} {base : Nat} {spare : Nat → Bool} {held : Bool}
theorem TabV.size {x : Array Value} {t : Tc} (h : TabV w x t) : x.size = 3 := by obtain ⟨cv, kv, rfl, _⟩ := h; rfl
theorem open_tabs {n : Nat} {cs : List Value} {y : DataW H × List MemPlace} (h : DataW.trod enc Try.prog w base spare held n 45 cs = some y) : ∃ v ts, cs = [v] ∧ TabsV w v ts ∧ fits ts := by
  obtain ⟨a, L, cap, rfl, h1, h2, h3, h4⟩ := open_row (fun p : { q : Array Value × Tc // q.1.size = 3 } => p.1.1) (fun p => TabV w p.1.1 p.1.2 ∧ p.1.2.fit) (z := 3) (fun p => p.2) (by omega) Try.underlying45 cellsT.2.2 (fun n cs y h => by
    obtain ⟨x, t, rfl, hx, hf⟩ := open_tab h
    exact ⟨⟨(x, t), hx.size⟩, rfl, hx, hf⟩) h
  refine ⟨_, L.map (fun p => p.1.2), rfl, ⟨a, cap, L.map (fun p => p.1.1), by simp, by simpa using h1, h2, h3, by simp, fun i hi hg => ?_⟩, fun t ht => ?_⟩
  · simp only [List.getElem_map]
    exact (h4 _ (List.getElem_mem _)).1
  · obtain ⟨p, hp, rfl⟩ := List.mem_map.1 ht
    exact (h4 p hp).2
set_option maxRecDepth 100000 in
theorem open_cat {n : Nat} {cs : List Value} {y : DataW H × List MemPlace} (h : DataW.trod enc Try.prog w base spare held n 47 cs = some y) : ∃ v ts, cs = [v] ∧ TabsV w v ts ∧ fits ts := by
  obtain ⟨xs, k, rfl, rfl, hl, hlen, hf⟩ := DataW.trod_struct Try.underlying47 h
  obtain ⟨z1, z2⟩ := cellsK
  rw [z1] at hl
  have h0 : DataW.trod enc Try.prog w base spare held k 45 ((cs.drop 0).take (Try.prog.cellsOf 45)) = xs[0]? := hf 0 _ rfl
  match xs, hlen, cs, hl with
  | [x0], _, [a0], _ =>
    simp only [z2] at h0
    obtain ⟨v, ts, e, hv, hft⟩ := open_tabs (h0.trans rfl)
    simp at e
    exact ⟨v, ts, by rw [e], hv, hft⟩
end
end Go.Proofs.Ytmkgbdgafjeeiah
