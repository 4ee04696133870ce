/- Batches among the arguments, opened. A region that draws its order, in worlds that only grow: one walk serves every order. -/
import Derived.Test.YtikccmgpmbnkfaaOpenSt
import Derived.Test.YtikccmgpmbnkfaaBta
import Derived.Test.YtikccmgpmbnkfaaCh
import Derived.Deep.QuietTactic
import Derived.BigQuiet
namespace Go.Proofs.Ytikccmgpmbnkfaa
open Go.ChangeShapes Go.WideShapes Go.ChangeAt Go.RowKit
theorem cellsPtc : Try.prog.cellsOf 104 = 12 := by kernel_rfl
theorem cellsBtc : Try.prog.cellsOf 24 = 3 ∧ Try.prog.cellsOf 22 = 1 := ⟨by kernel_rfl, by kernel_rfl⟩
section
variable {H : Type} {enc : TypeId × Value → H} {w : World} {base : Nat} {spare : Nat → Bool} {held : Bool}
set_option maxRecDepth 100000 in
theorem open_part {n : Nat} {cs : List Value} {y : DataW H × List MemPlace} (h : DataW.trod enc Try.prog w base spare held n 104 cs = some y) : ∃ (x : Array Value) (t : Ptc), cs = x.toList ∧ PartV w x t ∧ t.fit := by
  obtain ⟨xs, k, rfl, rfl, hl, hlen, hf⟩ := DataW.trod_struct Try.underlying104 h
  obtain ⟨_, y2⟩ := cellsT2
  have z3 := cellsSt
  rw [cellsPtc] at hl
  have h0 : DataW.trod enc Try.prog w base spare held k 51 ((cs.drop 0).take (Try.prog.cellsOf 51)) = xs[0]? := hf 0 _ rfl
  have h1 : DataW.trod enc Try.prog w base spare held k 47 ((cs.drop 10).take (Try.prog.cellsOf 47)) = xs[1]? := hf 1 _ rfl
  have h2 : DataW.trod enc Try.prog w base spare held k 47 ((cs.drop 11).take (Try.prog.cellsOf 47)) = xs[2]? := hf 2 _ rfl
  match xs, hlen, cs, hl with
  | [x0, x1, x2], _, [a0, a1, a2, a3, a4, a5, a6, a7, a8, a9, a10, a11], _ =>
    simp only [z3, y2] at h0 h1 h2
    obtain ⟨sx, sc, e2, hs, hsf⟩ := open_stmt (h0.trans rfl)
    obtain ⟨yv, ys, e0, hy, hyf⟩ := open_strs (h1.trans rfl)
    obtain ⟨zv, zs, e1, hz, hzf⟩ := open_strs (h2.trans rfl)
    obtain ⟨kv, rv, cv, sv, rfl, hk, hr, hc, ho⟩ := hs
    simp at e0 e1 e2
    obtain ⟨e2, e3, e4, e5, e6, e7, e8, e9, e10, e11⟩ := e2
    exact ⟨Ptc.cells ⟨sc, ys, zs⟩ kv rv cv sv yv zv, ⟨sc, ys, zs⟩, by simp [e0, e1, e2, e3, e4, e5, e6, e7, e8, e9, e10, e11], ⟨kv, rv, cv, sv, yv, zv, rfl, hk, hr, hc, ho, hy, hz⟩, hsf, hyf, hzf⟩
theorem open_parts {n : Nat} {cs : List Value} {y : DataW H × List MemPlace} (h : DataW.trod enc Try.prog w base spare held n 22 cs = some y) : ∃ v ts, cs = [v] ∧ PartsV w v ts ∧ pfits ts := by
  obtain ⟨a, L, cap, rfl, h1, h2, h3, h4⟩ := open_row (fun p : { q : Array Value × Ptc // q.1.size = 12 } => p.1.1) (fun p => PartV w p.1.1 p.1.2 ∧ p.1.2.fit) (z := 12) (fun p => p.2) (by omega) Try.underlying22 cellsPtc (fun n cs y h => by
    obtain ⟨x, t, rfl, hx, hf⟩ := open_part h
    exact ⟨⟨(x, t), hx.size⟩, rfl, hx, hf⟩) h
  refine ⟨_, L.map (fun p => p.1.2), rfl, ⟨a, cap, L.map (fun p => p.1.1), by simp, by simpa using h1, h2, h3, by simp, fun i hi hg => ?_⟩, fun t ht => ?_⟩
  · simp only [List.getElem_map]
    exact (h4 _ (List.getElem_mem _)).1
  · obtain ⟨p, hp, rfl⟩ := List.mem_map.1 ht
    exact (h4 p hp).2
set_option maxRecDepth 100000 in
theorem open_batch {n : Nat} {cs : List Value} {y : DataW H × List MemPlace} (h : DataW.trod enc Try.prog w base spare held n 24 cs = some y) : ∃ (x : Array Value) (t : Btc), cs = x.toList ∧ BatV w x t ∧ t.fit := by
  obtain ⟨xs, k, rfl, rfl, hl, hlen, hf⟩ := DataW.trod_struct Try.underlying24 h
  obtain ⟨_, y2, _⟩ := cells1
  obtain ⟨z1, z2⟩ := cellsBtc
  rw [z1] at hl
  have h0 : DataW.trod enc Try.prog w base spare held k 3 ((cs.drop 0).take (Try.prog.cellsOf 3)) = xs[0]? := hf 0 _ rfl
  have h1 : DataW.trod enc Try.prog w base spare held k 3 ((cs.drop 1).take (Try.prog.cellsOf 3)) = xs[1]? := hf 1 _ rfl
  have h2 : DataW.trod enc Try.prog w base spare held k 22 ((cs.drop 2).take (Try.prog.cellsOf 22)) = xs[2]? := hf 2 _ rfl
  match xs, hlen, cs, hl with
  | [x0, x1, x2], _, [a0, a1, a2], _ =>
    simp only [z2, y2] at h0 h1 h2
    obtain ⟨n0, e0, _, _⟩ := DataW.trod_int Try.underlying3 (h0.trans rfl)
    obtain ⟨n1, e1, _, _⟩ := DataW.trod_int Try.underlying3 (h1.trans rfl)
    obtain ⟨v, ts, e2, hs, hsf⟩ := open_parts (h2.trans rfl)
    obtain ⟨a, cap, rfl, _, _, hs'⟩ := hs.lit
    simp at e0 e1 e2
    exact ⟨#[.int .i64 n0, .int .i64 n1, .slice a ts.length cap], ⟨n0, n1, ts⟩, by simp [e0, e1, e2], ⟨a, cap, rfl, hs'⟩, hsf⟩
end
end Go.Proofs.Ytikccmgpmbnkfaa

namespace Go.Proofs.Ytikccmgpmbnkfaa
open Go.ChangeShapes Go.WideShapes Go.ChangeAt Go.RowKit

/-- A world grown out of another, nothing that was there turned. -/
def Grows (u w : World) : Prop := Below u.heap.size u w
theorem Grows.drawn (u : World) : Grows u { u with drawn := u.drawn + 1 } := ⟨rfl, rfl, rfl, Nat.le_refl _, fun _ _ => rfl⟩
theorem region_grown {P : Program} {id : Nat} {Q : Exit → Act → World → Prop} {a : Act} {u : World} {l : List Oper} (hm : P.follows .mixedOrders = true) (hB : Region.lexB .any l.toArray = true)
    (h : wpQuiet P l.toArray (Grows u) (fun a' => ∀ w', Grows u w' → Q .normal a' w') l a) : (Code.region id l.toArray true).wp P Q a u :=
  wp_region_quiet (C := Grows u) hm hB (Grows.drawn u) (by simpa using h)
/-- A callee that returns a value and only grows the world. -/
theorem Grows.call {P : Program} {f : FuncId} {args : Array Value} {u w : World} {v : Value} (hw : Grows u w) (h : Calls P f args w fun e w' => e = .returned v ∧ Below w.heap.size w w') : Calls P f args w fun e w' => e = .returned v ∧ Grows u w' :=
  h.mono fun _ _ ⟨h1, h2⟩ => ⟨h1, ch_trans hw h2⟩
theorem Grows.cell {u w : World} {p : Addr} {v : Value} (hw : Grows u w) (h : u.cell? p = some v) : w.cell? p = some v := cell_on h hw
end Go.Proofs.Ytikccmgpmbnkfaa
