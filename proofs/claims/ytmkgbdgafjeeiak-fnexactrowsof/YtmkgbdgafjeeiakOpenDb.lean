/- Tables among the arguments, opened. Catalogs among the arguments, opened. Stores among the arguments, opened. -/
import Derived.Test.YtmkgbdgafjeeiakOpenRs
import Derived.Test.YtmkgbdgafjeeiakTab
import Derived.Test.YtmkgbdgafjeeiakCt
import Derived.Test.YtmkgbdgafjeeiakDb
namespace Go.Proofs.Ytmkgbdgafjeeiak
open Go.ChangeShapes Go.WideShapes Go.ChangeAt Go.RowKit
theorem cellsT : Try.prog.cellsOf 52 = 1 ∧ Try.prog.cellsOf 53 = 1 ∧ Try.prog.cellsOf 140 = 3 := ⟨by kernel_rfl, by kernel_rfl, by kernel_rfl⟩
section
variable {H : Type} {enc : TypeId × Value → H} {w : World} {base : Nat} {spare : Nat → Bool} {held : Bool}
theorem open_cols {n : Nat} {cs : List Value} {y : DataW H × List MemPlace} (h : DataW.trod enc Try.prog w base spare held n 52 cs = some y) : ∃ v L, cs = [v] ∧ ColsV w v L ∧ ∀ c ∈ L, c.name.size ≤ maxLen ∧ c.ds.size ≤ maxLen := by
  obtain ⟨a, L, cap, rfl, h1, h2, h3, h4⟩ := open_row Cl.cells (fun c : Cl => c.name.size ≤ maxLen ∧ c.ds.size ≤ maxLen) (z := 7) (fun _ => rfl) (by omega) Try.underlying52 cells1.2.2.2.2 (fun n cs y h => open_col h) h
  exact ⟨_, L, rfl, ⟨a, cap, rfl, h1, h2, h3⟩, h4⟩
theorem open_strs {n : Nat} {cs : List Value} {y : DataW H × List MemPlace} (h : DataW.trod enc Try.prog w base spare held n 53 cs = some y) : ∃ v L, cs = [v] ∧ StrsV w v L ∧ ∀ s ∈ L, s.size ≤ maxLen := by
  obtain ⟨a, L, cap, rfl, h1, h2, h3, h4⟩ := open_row strX (fun s : ByteArray => s.size ≤ maxLen) (z := 1) (fun _ => rfl) (by omega) Try.underlying53 cells1.1 (fun n cs y h => by
    obtain ⟨s, rfl, _, hs⟩ := DataW.trod_string Try.underlying9 h; exact ⟨s, rfl, hs⟩) h
  exact ⟨_, L, rfl, ⟨a, cap, rfl, h1, h2, h3⟩, h4⟩
set_option maxRecDepth 100000 in
theorem open_tab {n : Nat} {cs : List Value} {y : DataW H × List MemPlace} (h : DataW.trod enc Try.prog w base spare held n 140 cs = some y) : ∃ (x : Array Value) (t : Tc), cs = x.toList ∧ TabV w x t ∧ t.fit := by
  obtain ⟨xs, k, rfl, rfl, hl, hlen, hf⟩ := DataW.trod_struct Try.underlying140 h
  obtain ⟨z1, z2, z3⟩ := cellsT
  rw [z3] at hl
  have h0 : DataW.trod enc Try.prog w base spare held k 9 ((cs.drop 0).take (Try.prog.cellsOf 9)) = xs[0]? := hf 0 _ rfl
  have h1 : DataW.trod enc Try.prog w base spare held k 52 ((cs.drop 1).take (Try.prog.cellsOf 52)) = xs[1]? := hf 1 _ rfl
  have h2 : DataW.trod enc Try.prog w base spare held k 53 ((cs.drop 2).take (Try.prog.cellsOf 53)) = xs[2]? := hf 2 _ rfl
  match xs, hlen, cs, hl with
  | [x0, x1, x2], _, [a0, a1, a2], _ =>
    simp only [z1, z2, cells1.1] at h0 h1 h2
    obtain ⟨s, e0, _, hs⟩ := DataW.trod_string Try.underlying9 (h0.trans rfl)
    obtain ⟨cv, cs, e1, hc, hcf⟩ := open_cols (h1.trans rfl)
    obtain ⟨kv, ks, e2, hk, hkf⟩ := open_strs (h2.trans rfl)
    simp at e0 e1 e2
    exact ⟨#[.string s, cv, kv], ⟨s, cs, ks⟩, by rw [e0, e1, e2], ⟨cv, kv, rfl, hc, hk⟩, hs, hcf, hkf⟩
end
end Go.Proofs.Ytmkgbdgafjeeiak

namespace Go.Proofs.Ytmkgbdgafjeeiak
open Go.ChangeShapes Go.WideShapes Go.ChangeAt Go.RowKit
theorem cellsK : Try.prog.cellsOf 30 = 1 ∧ Try.prog.cellsOf 28 = 1 := ⟨by kernel_rfl, by kernel_rfl⟩
section
variable {H : Type} {enc : TypeId × Value → H} {w : World} {base : Nat} {spare : Nat → Bool} {held : Bool}
theorem TabV.size {x : Array Value} {t : Tc} (h : TabV w x t) : x.size = 3 := by obtain ⟨cv, kv, rfl, _⟩ := h; rfl
theorem open_tabs {n : Nat} {cs : List Value} {y : DataW H × List MemPlace} (h : DataW.trod enc Try.prog w base spare held n 28 cs = some y) : ∃ v ts, cs = [v] ∧ TabsV w v ts ∧ fits ts := by
  obtain ⟨a, L, cap, rfl, h1, h2, h3, h4⟩ := open_row (fun p : { q : Array Value × Tc // q.1.size = 3 } => p.1.1) (fun p => TabV w p.1.1 p.1.2 ∧ p.1.2.fit) (z := 3) (fun p => p.2) (by omega) Try.underlying28 cellsT.2.2 (fun n cs y h => by
    obtain ⟨x, t, rfl, hx, hf⟩ := open_tab h
    exact ⟨⟨(x, t), hx.size⟩, rfl, hx, hf⟩) h
  refine ⟨_, L.map (fun p => p.1.2), rfl, ⟨a, cap, L.map (fun p => p.1.1), by simp, by simpa using h1, h2, h3, by simp, fun i hi hg => ?_⟩, fun t ht => ?_⟩
  · simp only [List.getElem_map]
    exact (h4 _ (List.getElem_mem _)).1
  · obtain ⟨p, hp, rfl⟩ := List.mem_map.1 ht
    exact (h4 p hp).2
set_option maxRecDepth 100000 in
theorem open_cat {n : Nat} {cs : List Value} {y : DataW H × List MemPlace} (h : DataW.trod enc Try.prog w base spare held n 30 cs = some y) : ∃ v ts, cs = [v] ∧ TabsV w v ts ∧ fits ts := by
  obtain ⟨xs, k, rfl, rfl, hl, hlen, hf⟩ := DataW.trod_struct Try.underlying30 h
  obtain ⟨z1, z2⟩ := cellsK
  rw [z1] at hl
  have h0 : DataW.trod enc Try.prog w base spare held k 28 ((cs.drop 0).take (Try.prog.cellsOf 28)) = xs[0]? := hf 0 _ rfl
  match xs, hlen, cs, hl with
  | [x0], _, [a0], _ =>
    simp only [z2] at h0
    obtain ⟨v, ts, e, hv, hft⟩ := open_tabs (h0.trans rfl)
    simp at e
    exact ⟨v, ts, by rw [e], hv, hft⟩
end
end Go.Proofs.Ytmkgbdgafjeeiak

namespace Go.Proofs.Ytmkgbdgafjeeiak
open Go.ChangeShapes Go.WideShapes Go.ChangeAt Go.RowKit
theorem cellsDb : Try.prog.cellsOf 108 = 1 ∧ Try.prog.cellsOf 22 = 1 ∧ Try.prog.cellsOf 31 = 1 ∧ Try.prog.cellsOf 33 = 2 := ⟨by kernel_rfl, by kernel_rfl, by kernel_rfl, by kernel_rfl⟩
section
variable {H : Type} {enc : TypeId × Value → H} {w : World} {base : Nat} {spare : Nat → Bool} {held : Bool}
set_option maxRecDepth 100000 in
theorem open_rowsOne {n : Nat} {cs : List Value} {y : DataW H × List MemPlace} (h : DataW.trod enc Try.prog w base spare held n 108 cs = some y) : ∃ v rs, cs = [v] ∧ RowsV w v rs ∧ rfits rs := by
  obtain ⟨xs, k, rfl, rfl, hl, hlen, hf⟩ := DataW.trod_struct Try.underlying108 h
  obtain ⟨z1, z2, _⟩ := cellsDb
  rw [z1] at hl
  have h0 : DataW.trod enc Try.prog w base spare held k 22 ((cs.drop 0).take (Try.prog.cellsOf 22)) = xs[0]? := hf 0 _ rfl
  match xs, hlen, cs, hl with
  | [x0], _, [a0], _ =>
    simp only [z2] at h0
    obtain ⟨v, vs, e, hv, hft⟩ := open_rows (h0.trans rfl)
    simp at e
    exact ⟨v, vs, by rw [e], hv, hft⟩
theorem open_data {n : Nat} {cs : List Value} {y : DataW H × List MemPlace} (h : DataW.trod enc Try.prog w base spare held n 31 cs = some y) : ∃ v ds, cs = [v] ∧ DataV w v ds ∧ dfits ds := by
  obtain ⟨a, L, cap, rfl, h1, h2, h3, h4⟩ := open_row (fun p : Value × List (List Vc) => one1 p.1) (fun p => RowsV w p.1 p.2 ∧ rfits p.2) (z := 1) (fun p => rfl) (by omega) Try.underlying31 cellsDb.1 (fun n cs y h => by
    obtain ⟨v, vs, rfl, hv, hf⟩ := open_rowsOne h
    exact ⟨(v, vs), rfl, hv, hf⟩) h
  refine ⟨_, L.map (fun p => p.2), rfl, ⟨a, cap, L.map (fun p => p.1), by simp, by simpa using h1, h2, by rw [List.map_map]; exact h3, by simp, fun i hi hg => ?_⟩, fun t ht => ?_⟩
  · simp only [List.getElem_map]
    exact (h4 _ (List.getElem_mem _)).1
  · obtain ⟨p, hp, rfl⟩ := List.mem_map.1 ht
    exact (h4 p hp).2
set_option maxRecDepth 100000 in
theorem open_db {n : Nat} {cs : List Value} {y : DataW H × List MemPlace} (h : DataW.trod enc Try.prog w base spare held n 33 cs = some y) : ∃ cv dv ts ds, cs = [cv, dv] ∧ TabsV w cv ts ∧ DataV w dv ds ∧ fits ts ∧ dfits ds := by
  obtain ⟨xs, k, rfl, rfl, hl, hlen, hf⟩ := DataW.trod_struct Try.underlying33 h
  obtain ⟨_, _, z3, z4⟩ := cellsDb
  obtain ⟨y1, _⟩ := cellsK
  rw [z4] at hl
  have h0 : DataW.trod enc Try.prog w base spare held k 30 ((cs.drop 0).take (Try.prog.cellsOf 30)) = xs[0]? := hf 0 _ rfl
  have h1 : DataW.trod enc Try.prog w base spare held k 31 ((cs.drop 1).take (Try.prog.cellsOf 31)) = xs[1]? := hf 1 _ rfl
  match xs, hlen, cs, hl with
  | [x0, x1], _, [a0, a1], _ =>
    simp only [z3, y1] at h0 h1
    obtain ⟨v, ts, e, hv, hft⟩ := open_cat (h0.trans rfl)
    obtain ⟨u, ds, e', hu, hgt⟩ := open_data (h1.trans rfl)
    simp at e e'
    exact ⟨v, u, ts, ds, by rw [e, e'], hv, hu, hft, hgt⟩
end
end Go.Proofs.Ytmkgbdgafjeeiak
