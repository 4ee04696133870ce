/- Values and rows among the arguments, opened. A row among the arguments, opened. Tables among the arguments, opened. Changes among the arguments, opened. Statements among the arguments, opened. -/
import Derived.Test.YtikccmgpmbnkfaaOpenC
import Derived.Test.YtikccmgpmbnkfaaVs
import Derived.Test.YtikccmgpmbnkfaaTab
import Derived.Test.YtikccmgpmbnkfaaDd
import Derived.Test.YtikccmgpmbnkfaaSt
namespace Go.Proofs.Ytikccmgpmbnkfaa
open Go.ChangeShapes Go.WideShapes Go.ChangeAt Go.RowKit
section
variable {H : Type} {enc : TypeId × Value → H} {w : World} {base : Nat} {spare : Nat → Bool} {held : Bool}
theorem open_vals {n : Nat} {cs : List Value} {y : DataW H × List MemPlace} (h : DataW.trod enc Try.prog w base spare held n 43 cs = some y) : ∃ v L, cs = [v] ∧ ValsV w v L ∧ vfit L := by
  obtain ⟨a, L, cap, rfl, h1, h2, h3, h4⟩ := open_row Vc.cells (fun c : Vc => c.s.size ≤ maxLen) (z := 3) (fun _ => rfl) (by omega) Try.underlying43 cells1.2.2.2.1 (fun n cs y h => by
    obtain ⟨t, m, s, rfl, hs⟩ := open_val h; exact ⟨⟨t, m, s⟩, rfl, hs⟩) h
  exact ⟨_, L, rfl, ⟨a, cap, rfl, h1, h2, h3⟩, h4⟩
end
end Go.Proofs.Ytikccmgpmbnkfaa

namespace Go.Proofs.Ytikccmgpmbnkfaa
open Go.ChangeShapes Go.WideShapes Go.ChangeAt Go.RowKit
theorem cellsR : Try.prog.cellsOf 45 = 1 ∧ Try.prog.cellsOf 43 = 1 := ⟨by kernel_rfl, by kernel_rfl⟩
section
variable {H : Type} {enc : TypeId × Value → H} {w : World} {base : Nat} {spare : Nat → Bool} {held : Bool}
set_option maxRecDepth 100000 in
theorem open_rw {n : Nat} {cs : List Value} {y : DataW H × List MemPlace} (h : DataW.trod enc Try.prog w base spare held n 45 cs = some y) : ∃ v vs, cs = [v] ∧ ValsV w v vs ∧ vfit vs := by
  obtain ⟨xs, k, rfl, rfl, hl, hlen, hf⟩ := DataW.trod_struct Try.underlying45 h
  obtain ⟨z1, z2⟩ := cellsR
  rw [z1] at hl
  have h0 : DataW.trod enc Try.prog w base spare held k 43 ((cs.drop 0).take (Try.prog.cellsOf 43)) = xs[0]? := hf 0 _ rfl
  match xs, hlen, cs, hl with
  | [x0], _, [a0], _ =>
    simp only [z2] at h0
    obtain ⟨v, vs, e, hv, hft⟩ := open_vals (h0.trans rfl)
    simp at e
    exact ⟨v, vs, by rw [e], hv, hft⟩
end
end Go.Proofs.Ytikccmgpmbnkfaa

namespace Go.Proofs.Ytikccmgpmbnkfaa
open Go.ChangeShapes Go.WideShapes Go.ChangeAt Go.RowKit
theorem cellsT2 : Try.prog.cellsOf 46 = 1 ∧ Try.prog.cellsOf 47 = 1 := ⟨by kernel_rfl, by kernel_rfl⟩
section
variable {H : Type} {enc : TypeId × Value → H} {w : World} {base : Nat} {spare : Nat → Bool} {held : Bool}
theorem open_cols {n : Nat} {cs : List Value} {y : DataW H × List MemPlace} (h : DataW.trod enc Try.prog w base spare held n 46 cs = some y) : ∃ v L, cs = [v] ∧ ColsV w v L ∧ ∀ c ∈ L, c.name.size ≤ maxLen ∧ c.ds.size ≤ maxLen := by
  obtain ⟨a, L, cap, rfl, h1, h2, h3, h4⟩ := open_row Cl.cells (fun c : Cl => c.name.size ≤ maxLen ∧ c.ds.size ≤ maxLen) (z := 7) (fun _ => rfl) (by omega) Try.underlying46 cells1.2.2.2.2 (fun n cs y h => open_col h) h
  exact ⟨_, L, rfl, ⟨a, cap, rfl, h1, h2, h3⟩, h4⟩
theorem open_strs {n : Nat} {cs : List Value} {y : DataW H × List MemPlace} (h : DataW.trod enc Try.prog w base spare held n 47 cs = some y) : ∃ v L, cs = [v] ∧ StrsV w v L ∧ ∀ s ∈ L, s.size ≤ maxLen := by
  obtain ⟨a, L, cap, rfl, h1, h2, h3, h4⟩ := open_row strX (fun s : ByteArray => s.size ≤ maxLen) (z := 1) (fun _ => rfl) (by omega) Try.underlying47 cells1.1 (fun n cs y h => by
    obtain ⟨s, rfl, _, hs⟩ := DataW.trod_string Try.underlying9 h; exact ⟨s, rfl, hs⟩) h
  exact ⟨_, L, rfl, ⟨a, cap, rfl, h1, h2, h3⟩, h4⟩
end
end Go.Proofs.Ytikccmgpmbnkfaa

namespace Go.Proofs.Ytikccmgpmbnkfaa
open Go.ChangeShapes Go.WideShapes Go.ChangeAt Go.RowKit
theorem cellsD : Try.prog.cellsOf 49 = 6 := by kernel_rfl
section
variable {H : Type} {enc : TypeId × Value → H} {w : World} {base : Nat} {spare : Nat → Bool} {held : Bool}
set_option maxRecDepth 100000 in
theorem open_ddl {n : Nat} {cs : List Value} {y : DataW H × List MemPlace} (h : DataW.trod enc Try.prog w base spare held n 49 cs = some y) : ∃ (x : Array Value) (t : Dc), cs = x.toList ∧ DdlV w x t ∧ t.fit := by
  obtain ⟨xs, k, rfl, rfl, hl, hlen, hf⟩ := DataW.trod_struct Try.underlying49 h
  obtain ⟨z1, z2⟩ := cellsT2
  obtain ⟨y1, y2, _⟩ := cells1
  rw [cellsD] at hl
  have h0 : DataW.trod enc Try.prog w base spare held k 3 ((cs.drop 0).take (Try.prog.cellsOf 3)) = xs[0]? := hf 0 _ rfl
  have h1 : DataW.trod enc Try.prog w base spare held k 9 ((cs.drop 1).take (Try.prog.cellsOf 9)) = xs[1]? := hf 1 _ rfl
  have h2 : DataW.trod enc Try.prog w base spare held k 46 ((cs.drop 2).take (Try.prog.cellsOf 46)) = xs[2]? := hf 2 _ rfl
  have h3 : DataW.trod enc Try.prog w base spare held k 47 ((cs.drop 3).take (Try.prog.cellsOf 47)) = xs[3]? := hf 3 _ rfl
  have h4 : DataW.trod enc Try.prog w base spare held k 9 ((cs.drop 4).take (Try.prog.cellsOf 9)) = xs[4]? := hf 4 _ rfl
  have h5 : DataW.trod enc Try.prog w base spare held k 9 ((cs.drop 5).take (Try.prog.cellsOf 9)) = xs[5]? := hf 5 _ rfl
  match xs, hlen, cs, hl with
  | [x0, x1, x2, x3, x4, x5], _, [a0, a1, a2, a3, a4, a5], _ =>
    simp only [z1, z2, y1, y2] at h0 h1 h2 h3 h4 h5
    obtain ⟨n0, e0, _, _⟩ := DataW.trod_int Try.underlying3 (h0.trans rfl)
    obtain ⟨s1, e1, _, hs1⟩ := DataW.trod_string Try.underlying9 (h1.trans rfl)
    obtain ⟨cv, cs, e2, hc, hcf⟩ := open_cols (h2.trans rfl)
    obtain ⟨kv, ks, e3, hk, hkf⟩ := open_strs (h3.trans rfl)
    obtain ⟨s4, e4, _, hs4⟩ := DataW.trod_string Try.underlying9 (h4.trans rfl)
    obtain ⟨s5, e5, _, hs5⟩ := DataW.trod_string Try.underlying9 (h5.trans rfl)
    simp at e0 e1 e2 e3 e4 e5
    exact ⟨#[.int .i64 n0, .string s1, cv, kv, .string s4, .string s5], ⟨n0, s1, cs, ks, s4, s5⟩, by rw [e0, e1, e2, e3, e4, e5], ⟨cv, kv, rfl, hc, hk⟩, hs1, hcf, hkf, hs4, hs5⟩
end
end Go.Proofs.Ytikccmgpmbnkfaa

namespace Go.Proofs.Ytikccmgpmbnkfaa
open Go.ChangeShapes Go.WideShapes Go.ChangeAt Go.RowKit
theorem cellsSt : Try.prog.cellsOf 51 = 10 := by kernel_rfl
section
variable {H : Type} {enc : TypeId × Value → H} {w : World} {base : Nat} {spare : Nat → Bool} {held : Bool}
set_option maxRecDepth 100000 in
theorem open_stmt {n : Nat} {cs : List Value} {y : DataW H × List MemPlace} (h : DataW.trod enc Try.prog w base spare held n 51 cs = some y) : ∃ (x : Array Value) (t : Sc), cs = x.toList ∧ StmtV w x t ∧ t.fit := by
  obtain ⟨xs, k, rfl, rfl, hl, hlen, hf⟩ := DataW.trod_struct Try.underlying51 h
  obtain ⟨z1, z2⟩ := cellsR
  obtain ⟨y1, y2, _⟩ := cells1
  have z3 := cellsD
  rw [cellsSt] at hl
  have h0 : DataW.trod enc Try.prog w base spare held k 3 ((cs.drop 0).take (Try.prog.cellsOf 3)) = xs[0]? := hf 0 _ rfl
  have h1 : DataW.trod enc Try.prog w base spare held k 9 ((cs.drop 1).take (Try.prog.cellsOf 9)) = xs[1]? := hf 1 _ rfl
  have h2 : DataW.trod enc Try.prog w base spare held k 43 ((cs.drop 2).take (Try.prog.cellsOf 43)) = xs[2]? := hf 2 _ rfl
  have h3 : DataW.trod enc Try.prog w base spare held k 45 ((cs.drop 3).take (Try.prog.cellsOf 45)) = xs[3]? := hf 3 _ rfl
  have h4 : DataW.trod enc Try.prog w base spare held k 49 ((cs.drop 4).take (Try.prog.cellsOf 49)) = xs[4]? := hf 4 _ rfl
  match xs, hlen, cs, hl with
  | [x0, x1, x2, x3, x4], _, [a0, a1, a2, a3, a4, a5, a6, a7, a8, a9], _ =>
    simp only [z1, z2, z3, y1, y2] at h0 h1 h2 h3 h4
    obtain ⟨n0, e0, _, _⟩ := DataW.trod_int Try.underlying3 (h0.trans rfl)
    obtain ⟨s1, e1, _, hs1⟩ := DataW.trod_string Try.underlying9 (h1.trans rfl)
    obtain ⟨kv, ks, e2, hk, hkf⟩ := open_vals (h2.trans rfl)
    obtain ⟨rv, rs, e3, hr, hrf⟩ := open_rw (h3.trans rfl)
    obtain ⟨dx, dc, e4, hd, hdf⟩ := open_ddl (h4.trans rfl)
    obtain ⟨cv, sv, rfl, hc, ho⟩ := hd
    simp at e0 e1 e2 e3 e4
    obtain ⟨e4, e5, e6, e7, e8, e9⟩ := e4
    exact ⟨Sc.cells ⟨n0, s1, ks, rs, dc⟩ kv rv cv sv, ⟨n0, s1, ks, rs, dc⟩, by simp [e0, e1, e2, e3, e4, e5, e6, e7, e8, e9], ⟨kv, rv, cv, sv, rfl, hk, hr, hc, ho⟩, hs1, hkf, hrf, hdf⟩
end
end Go.Proofs.Ytikccmgpmbnkfaa
