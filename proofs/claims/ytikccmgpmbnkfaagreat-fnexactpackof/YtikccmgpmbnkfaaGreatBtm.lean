/- Arguments opened: columns, rows of elements. Values and rows among the arguments, opened. A row among the arguments, opened. Tables among the arguments, opened. Changes among the arguments, opened. Statements among the arguments, opened. Batches among the arguments, opened. Parts behind a slice, marked. Lists of parts whose parts all lie in blocks; a batch marked. -/
import Derived.Test.YtikccmgpmbnkfaaGreatCl
import Derived.Test.YtikccmgpmbnkfaaGreatCh
import Derived.Carry
import Derived.Lib.SmallJoins
import Derived.Test.YtikccmgpmbnkfaaGreatVs
import Derived.Test.YtikccmgpmbnkfaaGreatTab
import Derived.Test.YtikccmgpmbnkfaaGreatDd
import Derived.Test.YtikccmgpmbnkfaaGreatSt
import Derived.Test.YtikccmgpmbnkfaaGreatBta
import Derived.Test.YtikccmgpmbnkfaaGreatPtb
namespace Go.Proofs.YtikccmgpmbnkfaaGreat
open Go.ChangeShapes Go.WideShapes Go.ChangeAt Go.RowKit

theorem cells1 : Tryz.prog.cellsOf 9 = 1 ∧ Tryz.prog.cellsOf 3 = 1 ∧ Tryz.prog.cellsOf 4 = 1 ∧ Tryz.prog.cellsOf 193 = 3 ∧ Tryz.prog.cellsOf 209 = 7 := ⟨by kernel_rfl, by kernel_rfl, by kernel_rfl, by kernel_rfl, by kernel_rfl⟩

section
variable {H : Type} {enc : TypeId × Value → H} {w : World} {base : Nat} {spare : Nat → Bool} {held : Bool}
set_option maxRecDepth 100000 in
/-- A value, opened. -/
theorem open_val {n : Nat} {cs : List Value} {y : DataW H × List MemPlace} (h : DataW.trod enc Tryz.prog w base spare held n 193 cs = some y) : ∃ (t m : Int) (s : ByteArray), cs = [.int .i64 t, .int .i64 m, .string s] ∧ s.size ≤ maxLen := by
  obtain ⟨xs, k, rfl, rfl, hl, hlen, hf⟩ := DataW.trod_struct Tryz.underlying193 h
  obtain ⟨z1, z2, z3, z4, z5⟩ := cells1
  rw [z4] at hl
  have h0 : DataW.trod enc Tryz.prog w base spare held k 3 ((cs.drop 0).take (Tryz.prog.cellsOf 3)) = xs[0]? := hf 0 _ rfl
  have h1 : DataW.trod enc Tryz.prog w base spare held k 3 ((cs.drop 1).take (Tryz.prog.cellsOf 3)) = xs[1]? := hf 1 _ rfl
  have h2 : DataW.trod enc Tryz.prog w base spare held k 9 ((cs.drop 2).take (Tryz.prog.cellsOf 9)) = xs[2]? := hf 2 _ rfl
  match xs, hlen, cs, hl with
  | [x0, x1, x2], _, [a0, a1, a2], _ =>
    simp only [z1, z2] at h0 h1 h2
    obtain ⟨t, e0, _, _⟩ := DataW.trod_int Tryz.underlying3 (h0.trans rfl)
    obtain ⟨m, e1, _, _⟩ := DataW.trod_int Tryz.underlying3 (h1.trans rfl)
    obtain ⟨s, e2, _, hs⟩ := DataW.trod_string Tryz.underlying9 (h2.trans rfl)
    simp at e0 e1 e2
    exact ⟨t, m, s, by rw [e0, e1, e2], hs⟩
set_option maxRecDepth 100000 in
/-- A column, opened. -/
theorem open_col {n : Nat} {cs : List Value} {y : DataW H × List MemPlace} (h : DataW.trod enc Tryz.prog w base spare held n 209 cs = some y) : ∃ c : Cl, cs = c.cells.toList ∧ c.name.size ≤ maxLen ∧ c.ds.size ≤ maxLen := by
  obtain ⟨xs, k, rfl, rfl, hl, hlen, hf⟩ := DataW.trod_struct Tryz.underlying209 h
  obtain ⟨z1, z2, z3, z4, z5⟩ := cells1
  rw [z5] at hl
  have h0 : DataW.trod enc Tryz.prog w base spare held k 9 ((cs.drop 0).take (Tryz.prog.cellsOf 9)) = xs[0]? := hf 0 _ rfl
  have h1 : DataW.trod enc Tryz.prog w base spare held k 3 ((cs.drop 1).take (Tryz.prog.cellsOf 3)) = xs[1]? := hf 1 _ rfl
  have h2 : DataW.trod enc Tryz.prog w base spare held k 4 ((cs.drop 2).take (Tryz.prog.cellsOf 4)) = xs[2]? := hf 2 _ rfl
  have h3 : DataW.trod enc Tryz.prog w base spare held k 4 ((cs.drop 3).take (Tryz.prog.cellsOf 4)) = xs[3]? := hf 3 _ rfl
  have h4 : DataW.trod enc Tryz.prog w base spare held k 193 ((cs.drop 4).take (Tryz.prog.cellsOf 193)) = xs[4]? := hf 4 _ rfl
  match xs, hlen, cs, hl with
  | [x0, x1, x2, x3, x4], _, [a0, a1, a2, a3, a4, a5, a6], _ =>
    simp only [z1, z2, z3, z4] at h0 h1 h2 h3 h4
    obtain ⟨s, e0, _, hs⟩ := DataW.trod_string Tryz.underlying9 (h0.trans rfl)
    obtain ⟨t, e1, _, _⟩ := DataW.trod_int Tryz.underlying3 (h1.trans rfl)
    obtain ⟨b1, e2, _⟩ := DataW.trod_bool Tryz.underlying4 (h2.trans rfl)
    obtain ⟨b2, e3, _⟩ := DataW.trod_bool Tryz.underlying4 (h3.trans rfl)
    obtain ⟨dt, dn, ds, e4, hd⟩ := open_val (h4.trans rfl)
    simp at e0 e1 e2 e3 e4
    exact ⟨⟨s, t, b1, b2, dt, dn, ds⟩, by rw [e0, e1, e2, e3, e4.1, e4.2.1, e4.2.2], hs, hd⟩

theorem list_of {α : Type} {p : Nat → α → Prop} : ∀ (n : Nat), (∀ i, i < n → ∃ a, p i a) → ∃ L : List α, L.length = n ∧ ∀ i (h : i < L.length), p i L[i]
  | 0, _ => ⟨[], rfl, fun i h => by simp at h⟩
  | n + 1, h => by
    obtain ⟨L, hl, hp⟩ := list_of n fun i hi => h i (by omega)
    obtain ⟨a, ha⟩ := h n (by omega)
    refine ⟨L ++ [a], by simp [hl], fun i hi => ?_⟩
    by_cases hin : i < L.length
    · rw [List.getElem_append_left hin]; exact hp i hin
    · simp at hi
      have : i = n := by omega
      subst this
      rw [List.getElem_append_right (by omega)]
      simpa [hl] using ha

set_option maxRecDepth 100000 in
/-- A slice, opened. -/
theorem open_row {α : Type} {t e : TypeId} {z : Nat} (cells : α → Array Value) (ok : α → Prop) (hz : ∀ a, (cells a).size = z) (hz0 : 0 < z) (ht : Tryz.prog.underlying t = some (.slice e)) (hc : Tryz.prog.cellsOf e = z)
    (hel : ∀ n cs y, DataW.trod enc Tryz.prog w base spare held n e cs = some y → ∃ a, cs = (cells a).toList ∧ ok a) {n : Nat} {cs : List Value} {y : DataW H × List MemPlace} (h : DataW.trod enc Tryz.prog w base spare held n t cs = some y) :
    ∃ (a : Option Addr) (L : List α) (cap : Nat), cs = [.slice a L.length cap] ∧ L.length ≤ cap ∧ cap ≤ maxLen ∧ RowAt w a z (L.map cells) ∧ ∀ x ∈ L, ok x := by
  rcases DataW.trod_slice ht h with ⟨rfl, rfl⟩ | ⟨a, len, cap, elems, rest, k, _, rfl, _, _, hlc, hcm, hlen, hx, _, _⟩
  · exact ⟨.none, [], 0, rfl, Nat.le_refl _, Nat.zero_le _, RowAt.nil _ _ _, fun x hx => by simp at hx⟩
  · rw [hc] at hx
    have hx' : ∀ i, i < len → ∃ x : α, ok x ∧ ∀ j, j < z → w.cell? ((a.add (i * z)).add j) = (cells x)[j]? := fun i hi => by
      have := hx i hi
      rw [List.getElem?_eq_getElem (by omega)] at this
      obtain ⟨cs', h1, h2⟩ := Option.bind_eq_some_iff.1 this
      obtain ⟨x, rfl, hk⟩ := hel _ _ _ h2
      obtain ⟨_, _, h3⟩ := World.cells?_some h1
      exact ⟨x, hk, fun j hj => by rw [h3 j hj]; simp⟩
    obtain ⟨L, hL, hp⟩ := list_of len hx'
    subst hL
    refine ⟨some a, L, cap, rfl, hlc, hcm, ⟨fun x hx => ?_, ?_⟩, fun x hx => ?_⟩
    · obtain ⟨y, _, rfl⟩ := List.mem_map.1 hx; exact hz y
    · by_cases h0 : L.length = 0
      · left; simp [List.length_eq_zero_iff.1 h0]
      · right
        obtain ⟨b, off, sp⟩ := a
        have hsp : sp = .none := by
          have h1 := (hp 0 (by omega)).2 0 hz0
          rw [Array.getElem?_eq_getElem (by rw [hz]; exact hz0)] at h1
          unfold World.cell? at h1
          simp [Addr.add] at h1
          split at h1
          · simp at h1; exact h1.1
          · cases h1
        subst hsp
        refine ⟨b, off, rfl, fun i hi j hj => ?_⟩
        simp only [List.length_map] at hi
        rw [List.getElem_map, ← (hp i hi).2 j hj, add_add]
    · obtain ⟨i, hi, rfl⟩ := List.getElem_of_mem hx; exact (hp i hi).1
end
end Go.Proofs.YtikccmgpmbnkfaaGreat

namespace Go.Proofs.YtikccmgpmbnkfaaGreat
open Go.ChangeShapes Go.WideShapes Go.ChangeAt Go.RowKit
section
variable {H : Type} {enc : TypeId × Value → H} {w : World} {base : Nat} {spare : Nat → Bool} {held : Bool}
theorem open_vals {n : Nat} {cs : List Value} {y : DataW H × List MemPlace} (h : DataW.trod enc Tryz.prog w base spare held n 98 cs = some y) : ∃ v L, cs = [v] ∧ ValsV w v L ∧ vfit L := by
  obtain ⟨a, L, cap, rfl, h1, h2, h3, h4⟩ := open_row Vc.cells (fun c : Vc => c.s.size ≤ maxLen) (z := 3) (fun _ => rfl) (by omega) Tryz.underlying98 cells1.2.2.2.1 (fun n cs y h => by
    obtain ⟨t, m, s, rfl, hs⟩ := open_val h; exact ⟨⟨t, m, s⟩, rfl, hs⟩) h
  exact ⟨_, L, rfl, ⟨a, cap, rfl, h1, h2, h3⟩, h4⟩
end
end Go.Proofs.YtikccmgpmbnkfaaGreat

namespace Go.Proofs.YtikccmgpmbnkfaaGreat
open Go.ChangeShapes Go.WideShapes Go.ChangeAt Go.RowKit
theorem cellsR : Tryz.prog.cellsOf 100 = 1 ∧ Tryz.prog.cellsOf 98 = 1 := ⟨by kernel_rfl, by kernel_rfl⟩
section
variable {H : Type} {enc : TypeId × Value → H} {w : World} {base : Nat} {spare : Nat → Bool} {held : Bool}
set_option maxRecDepth 100000 in
theorem open_rw {n : Nat} {cs : List Value} {y : DataW H × List MemPlace} (h : DataW.trod enc Tryz.prog w base spare held n 100 cs = some y) : ∃ v vs, cs = [v] ∧ ValsV w v vs ∧ vfit vs := by
  obtain ⟨xs, k, rfl, rfl, hl, hlen, hf⟩ := DataW.trod_struct Tryz.underlying100 h
  obtain ⟨z1, z2⟩ := cellsR
  rw [z1] at hl
  have h0 : DataW.trod enc Tryz.prog w base spare held k 98 ((cs.drop 0).take (Tryz.prog.cellsOf 98)) = xs[0]? := hf 0 _ rfl
  match xs, hlen, cs, hl with
  | [x0], _, [a0], _ =>
    simp only [z2] at h0
    obtain ⟨v, vs, e, hv, hft⟩ := open_vals (h0.trans rfl)
    simp at e
    exact ⟨v, vs, by rw [e], hv, hft⟩
end
end Go.Proofs.YtikccmgpmbnkfaaGreat

namespace Go.Proofs.YtikccmgpmbnkfaaGreat
open Go.ChangeShapes Go.WideShapes Go.ChangeAt Go.RowKit
theorem cellsT2 : Tryz.prog.cellsOf 101 = 1 ∧ Tryz.prog.cellsOf 44 = 1 := ⟨by kernel_rfl, by kernel_rfl⟩
section
variable {H : Type} {enc : TypeId × Value → H} {w : World} {base : Nat} {spare : Nat → Bool} {held : Bool}
theorem open_cols {n : Nat} {cs : List Value} {y : DataW H × List MemPlace} (h : DataW.trod enc Tryz.prog w base spare held n 101 cs = some y) : ∃ v L, cs = [v] ∧ ColsV w v L ∧ ∀ c ∈ L, c.name.size ≤ maxLen ∧ c.ds.size ≤ maxLen := by
  obtain ⟨a, L, cap, rfl, h1, h2, h3, h4⟩ := open_row Cl.cells (fun c : Cl => c.name.size ≤ maxLen ∧ c.ds.size ≤ maxLen) (z := 7) (fun _ => rfl) (by omega) Tryz.underlying101 cells1.2.2.2.2 (fun n cs y h => open_col h) h
  exact ⟨_, L, rfl, ⟨a, cap, rfl, h1, h2, h3⟩, h4⟩
theorem open_strs {n : Nat} {cs : List Value} {y : DataW H × List MemPlace} (h : DataW.trod enc Tryz.prog w base spare held n 44 cs = some y) : ∃ v L, cs = [v] ∧ StrsV w v L ∧ ∀ s ∈ L, s.size ≤ maxLen := by
  obtain ⟨a, L, cap, rfl, h1, h2, h3, h4⟩ := open_row strX (fun s : ByteArray => s.size ≤ maxLen) (z := 1) (fun _ => rfl) (by omega) Tryz.underlying44 cells1.1 (fun n cs y h => by
    obtain ⟨s, rfl, _, hs⟩ := DataW.trod_string Tryz.underlying9 h; exact ⟨s, rfl, hs⟩) h
  exact ⟨_, L, rfl, ⟨a, cap, rfl, h1, h2, h3⟩, h4⟩
end
end Go.Proofs.YtikccmgpmbnkfaaGreat

namespace Go.Proofs.YtikccmgpmbnkfaaGreat
open Go.ChangeShapes Go.WideShapes Go.ChangeAt Go.RowKit
theorem cellsD : Tryz.prog.cellsOf 103 = 6 := by kernel_rfl
section
variable {H : Type} {enc : TypeId × Value → H} {w : World} {base : Nat} {spare : Nat → Bool} {held : Bool}
set_option maxRecDepth 100000 in
theorem open_ddl {n : Nat} {cs : List Value} {y : DataW H × List MemPlace} (h : DataW.trod enc Tryz.prog w base spare held n 103 cs = some y) : ∃ (x : Array Value) (t : Dc), cs = x.toList ∧ DdlV w x t ∧ t.fit := by
  obtain ⟨xs, k, rfl, rfl, hl, hlen, hf⟩ := DataW.trod_struct Tryz.underlying103 h
  obtain ⟨z1, z2⟩ := cellsT2
  obtain ⟨y1, y2, _⟩ := cells1
  rw [cellsD] at hl
  have h0 : DataW.trod enc Tryz.prog w base spare held k 3 ((cs.drop 0).take (Tryz.prog.cellsOf 3)) = xs[0]? := hf 0 _ rfl
  have h1 : DataW.trod enc Tryz.prog w base spare held k 9 ((cs.drop 1).take (Tryz.prog.cellsOf 9)) = xs[1]? := hf 1 _ rfl
  have h2 : DataW.trod enc Tryz.prog w base spare held k 101 ((cs.drop 2).take (Tryz.prog.cellsOf 101)) = xs[2]? := hf 2 _ rfl
  have h3 : DataW.trod enc Tryz.prog w base spare held k 44 ((cs.drop 3).take (Tryz.prog.cellsOf 44)) = xs[3]? := hf 3 _ rfl
  have h4 : DataW.trod enc Tryz.prog w base spare held k 9 ((cs.drop 4).take (Tryz.prog.cellsOf 9)) = xs[4]? := hf 4 _ rfl
  have h5 : DataW.trod enc Tryz.prog w base spare held k 9 ((cs.drop 5).take (Tryz.prog.cellsOf 9)) = xs[5]? := hf 5 _ rfl
  match xs, hlen, cs, hl with
  | [x0, x1, x2, x3, x4, x5], _, [a0, a1, a2, a3, a4, a5], _ =>
    simp only [z1, z2, y1, y2] at h0 h1 h2 h3 h4 h5
    obtain ⟨n0, e0, _, _⟩ := DataW.trod_int Tryz.underlying3 (h0.trans rfl)
    obtain ⟨s1, e1, _, hs1⟩ := DataW.trod_string Tryz.underlying9 (h1.trans rfl)
    obtain ⟨cv, cs, e2, hc, hcf⟩ := open_cols (h2.trans rfl)
    obtain ⟨kv, ks, e3, hk, hkf⟩ := open_strs (h3.trans rfl)
    obtain ⟨s4, e4, _, hs4⟩ := DataW.trod_string Tryz.underlying9 (h4.trans rfl)
    obtain ⟨s5, e5, _, hs5⟩ := DataW.trod_string Tryz.underlying9 (h5.trans rfl)
    simp at e0 e1 e2 e3 e4 e5
    exact ⟨#[.int .i64 n0, .string s1, cv, kv, .string s4, .string s5], ⟨n0, s1, cs, ks, s4, s5⟩, by rw [e0, e1, e2, e3, e4, e5], ⟨cv, kv, rfl, hc, hk⟩, hs1, hcf, hkf, hs4, hs5⟩
end
end Go.Proofs.YtikccmgpmbnkfaaGreat

namespace Go.Proofs.YtikccmgpmbnkfaaGreat
open Go.ChangeShapes Go.WideShapes Go.ChangeAt Go.RowKit
theorem cellsSt : Tryz.prog.cellsOf 105 = 10 := by kernel_rfl
section
variable {H : Type} {enc : TypeId × Value → H} {w : World} {base : Nat} {spare : Nat → Bool} {held : Bool}
set_option maxRecDepth 100000 in
theorem open_stmt {n : Nat} {cs : List Value} {y : DataW H × List MemPlace} (h : DataW.trod enc Tryz.prog w base spare held n 105 cs = some y) : ∃ (x : Array Value) (t : Sc), cs = x.toList ∧ StmtV w x t ∧ t.fit := by
  obtain ⟨xs, k, rfl, rfl, hl, hlen, hf⟩ := DataW.trod_struct Tryz.underlying105 h
  obtain ⟨z1, z2⟩ := cellsR
  obtain ⟨y1, y2, _⟩ := cells1
  have z3 := cellsD
  rw [cellsSt] at hl
  have h0 : DataW.trod enc Tryz.prog w base spare held k 3 ((cs.drop 0).take (Tryz.prog.cellsOf 3)) = xs[0]? := hf 0 _ rfl
  have h1 : DataW.trod enc Tryz.prog w base spare held k 9 ((cs.drop 1).take (Tryz.prog.cellsOf 9)) = xs[1]? := hf 1 _ rfl
  have h2 : DataW.trod enc Tryz.prog w base spare held k 98 ((cs.drop 2).take (Tryz.prog.cellsOf 98)) = xs[2]? := hf 2 _ rfl
  have h3 : DataW.trod enc Tryz.prog w base spare held k 100 ((cs.drop 3).take (Tryz.prog.cellsOf 100)) = xs[3]? := hf 3 _ rfl
  have h4 : DataW.trod enc Tryz.prog w base spare held k 103 ((cs.drop 4).take (Tryz.prog.cellsOf 103)) = xs[4]? := hf 4 _ rfl
  match xs, hlen, cs, hl with
  | [x0, x1, x2, x3, x4], _, [a0, a1, a2, a3, a4, a5, a6, a7, a8, a9], _ =>
    simp only [z1, z2, z3, y1, y2] at h0 h1 h2 h3 h4
    obtain ⟨n0, e0, _, _⟩ := DataW.trod_int Tryz.underlying3 (h0.trans rfl)
    obtain ⟨s1, e1, _, hs1⟩ := DataW.trod_string Tryz.underlying9 (h1.trans rfl)
    obtain ⟨kv, ks, e2, hk, hkf⟩ := open_vals (h2.trans rfl)
    obtain ⟨rv, rs, e3, hr, hrf⟩ := open_rw (h3.trans rfl)
    obtain ⟨dx, dc, e4, hd, hdf⟩ := open_ddl (h4.trans rfl)
    obtain ⟨cv, sv, rfl, hc, ho⟩ := hd
    simp at e0 e1 e2 e3 e4
    obtain ⟨e4, e5, e6, e7, e8, e9⟩ := e4
    exact ⟨Sc.cells ⟨n0, s1, ks, rs, dc⟩ kv rv cv sv, ⟨n0, s1, ks, rs, dc⟩, by simp [e0, e1, e2, e3, e4, e5, e6, e7, e8, e9], ⟨kv, rv, cv, sv, rfl, hk, hr, hc, ho⟩, hs1, hkf, hrf, hdf⟩
end
end Go.Proofs.YtikccmgpmbnkfaaGreat

namespace Go.Proofs.YtikccmgpmbnkfaaGreat
open Go.ChangeShapes Go.WideShapes Go.ChangeAt Go.RowKit
theorem cellsPtc : Tryz.prog.cellsOf 107 = 12 := by kernel_rfl
theorem cellsBtc : Tryz.prog.cellsOf 24 = 3 ∧ Tryz.prog.cellsOf 22 = 1 := ⟨by kernel_rfl, by kernel_rfl⟩
section
variable {H : Type} {enc : TypeId × Value → H} {w : World} {base : Nat} {spare : Nat → Bool} {held : Bool}
set_option maxRecDepth 100000 in
theorem open_part {n : Nat} {cs : List Value} {y : DataW H × List MemPlace} (h : DataW.trod enc Tryz.prog w base spare held n 107 cs = some y) : ∃ (x : Array Value) (t : Ptc), cs = x.toList ∧ PartV w x t ∧ t.fit := by
  obtain ⟨xs, k, rfl, rfl, hl, hlen, hf⟩ := DataW.trod_struct Tryz.underlying107 h
  obtain ⟨_, y2⟩ := cellsT2
  have z3 := cellsSt
  rw [cellsPtc] at hl
  have h0 : DataW.trod enc Tryz.prog w base spare held k 105 ((cs.drop 0).take (Tryz.prog.cellsOf 105)) = xs[0]? := hf 0 _ rfl
  have h1 : DataW.trod enc Tryz.prog w base spare held k 44 ((cs.drop 10).take (Tryz.prog.cellsOf 44)) = xs[1]? := hf 1 _ rfl
  have h2 : DataW.trod enc Tryz.prog w base spare held k 44 ((cs.drop 11).take (Tryz.prog.cellsOf 44)) = xs[2]? := hf 2 _ rfl
  match xs, hlen, cs, hl with
  | [x0, x1, x2], _, [a0, a1, a2, a3, a4, a5, a6, a7, a8, a9, a10, a11], _ =>
    simp only [z3, y2] at h0 h1 h2
    obtain ⟨sx, sc, e2, hs, hsf⟩ := open_stmt (h0.trans rfl)
    obtain ⟨yv, ys, e0, hy, hyf⟩ := open_strs (h1.trans rfl)
    obtain ⟨zv, zs, e1, hz, hzf⟩ := open_strs (h2.trans rfl)
    obtain ⟨kv, rv, cv, sv, rfl, hk, hr, hc, ho⟩ := hs
    simp at e0 e1 e2
    obtain ⟨e2, e3, e4, e5, e6, e7, e8, e9, e10, e11⟩ := e2
    exact ⟨Ptc.cells ⟨sc, ys, zs⟩ kv rv cv sv yv zv, ⟨sc, ys, zs⟩, by simp [e0, e1, e2, e3, e4, e5, e6, e7, e8, e9, e10, e11], ⟨kv, rv, cv, sv, yv, zv, rfl, hk, hr, hc, ho, hy, hz⟩, hsf, hyf, hzf⟩
theorem open_parts {n : Nat} {cs : List Value} {y : DataW H × List MemPlace} (h : DataW.trod enc Tryz.prog w base spare held n 22 cs = some y) : ∃ v ts, cs = [v] ∧ PartsV w v ts ∧ pfits ts := by
  obtain ⟨a, L, cap, rfl, h1, h2, h3, h4⟩ := open_row (fun p : { q : Array Value × Ptc // q.1.size = 12 } => p.1.1) (fun p => PartV w p.1.1 p.1.2 ∧ p.1.2.fit) (z := 12) (fun p => p.2) (by omega) Tryz.underlying22 cellsPtc (fun n cs y h => by
    obtain ⟨x, t, rfl, hx, hf⟩ := open_part h
    exact ⟨⟨(x, t), hx.size⟩, rfl, hx, hf⟩) h
  refine ⟨_, L.map (fun p => p.1.2), rfl, ⟨a, cap, L.map (fun p => p.1.1), by simp, by simpa using h1, h2, h3, by simp, fun i hi hg => ?_⟩, fun t ht => ?_⟩
  · simp only [List.getElem_map]
    exact (h4 _ (List.getElem_mem _)).1
  · obtain ⟨p, hp, rfl⟩ := List.mem_map.1 ht
    exact (h4 p hp).2
set_option maxRecDepth 100000 in
theorem open_batch {n : Nat} {cs : List Value} {y : DataW H × List MemPlace} (h : DataW.trod enc Tryz.prog w base spare held n 24 cs = some y) : ∃ (x : Array Value) (t : Btc), cs = x.toList ∧ BatV w x t ∧ t.fit := by
  obtain ⟨xs, k, rfl, rfl, hl, hlen, hf⟩ := DataW.trod_struct Tryz.underlying24 h
  obtain ⟨_, y2, _⟩ := cells1
  obtain ⟨z1, z2⟩ := cellsBtc
  rw [z1] at hl
  have h0 : DataW.trod enc Tryz.prog w base spare held k 3 ((cs.drop 0).take (Tryz.prog.cellsOf 3)) = xs[0]? := hf 0 _ rfl
  have h1 : DataW.trod enc Tryz.prog w base spare held k 3 ((cs.drop 1).take (Tryz.prog.cellsOf 3)) = xs[1]? := hf 1 _ rfl
  have h2 : DataW.trod enc Tryz.prog w base spare held k 22 ((cs.drop 2).take (Tryz.prog.cellsOf 22)) = xs[2]? := hf 2 _ rfl
  match xs, hlen, cs, hl with
  | [x0, x1, x2], _, [a0, a1, a2], _ =>
    simp only [z2, y2] at h0 h1 h2
    obtain ⟨n0, e0, _, _⟩ := DataW.trod_int Tryz.underlying3 (h0.trans rfl)
    obtain ⟨n1, e1, _, _⟩ := DataW.trod_int Tryz.underlying3 (h1.trans rfl)
    obtain ⟨v, ts, e2, hs, hsf⟩ := open_parts (h2.trans rfl)
    obtain ⟨a, cap, rfl, _, _, hs'⟩ := hs.lit
    simp at e0 e1 e2
    exact ⟨#[.int .i64 n0, .int .i64 n1, .slice a ts.length cap], ⟨n0, n1, ts⟩, by simp [e0, e1, e2], ⟨a, cap, rfl, hs'⟩, hsf⟩
end
end Go.Proofs.YtikccmgpmbnkfaaGreat

namespace Go.Proofs.YtikccmgpmbnkfaaGreat
open Go.ChangeShapes Go.WideShapes Go.ChangeAt Go.RowKit

theorem PartsS.at {S : Nat → Prop} {w : World} {b n cap : Nat} (h : PartsS S w (.slice (some ⟨b, 0, none⟩) n cap)) (j : Nat) (hj : j < n) : ∃ f a0 a1 b2 n2 c2 b3 n3 c3 a4 a5 b6 n6 c6 b7 n7 c7 a8 a9 b10 n10 c10 b11 n11 c11, S b ∧ w.rowIs b 68 (n * 12) f ∧ f (j * 12) = .int .i64 a0 ∧ f (j * 12 + 1) = .string a1 ∧ f (j * 12 + 4) = .int .i64 a4 ∧ f (j * 12 + 5) = .string a5 ∧ f (j * 12 + 8) = .string a8 ∧ f (j * 12 + 9) = .string a9 ∧ w.cell? ⟨b, j * 12, none⟩ = some (.int .i64 a0) ∧ w.cell? ⟨b, j * 12 + 1, none⟩ = some (.string a1) ∧ w.cell? ⟨b, j * 12 + 2, none⟩ = some (.slice (some ⟨b2, 0, none⟩) n2 c2) ∧ w.cell? ⟨b, j * 12 + 3, none⟩ = some (.slice (some ⟨b3, 0, none⟩) n3 c3) ∧ w.cell? ⟨b, j * 12 + 4, none⟩ = some (.int .i64 a4) ∧ w.cell? ⟨b, j * 12 + 5, none⟩ = some (.string a5) ∧ w.cell? ⟨b, j * 12 + 6, none⟩ = some (.slice (some ⟨b6, 0, none⟩) n6 c6) ∧ w.cell? ⟨b, j * 12 + 7, none⟩ = some (.slice (some ⟨b7, 0, none⟩) n7 c7) ∧ w.cell? ⟨b, j * 12 + 8, none⟩ = some (.string a8) ∧ w.cell? ⟨b, j * 12 + 9, none⟩ = some (.string a9) ∧ w.cell? ⟨b, j * 12 + 10, none⟩ = some (.slice (some ⟨b10, 0, none⟩) n10 c10) ∧ w.cell? ⟨b, j * 12 + 11, none⟩ = some (.slice (some ⟨b11, 0, none⟩) n11 c11) ∧ w.frozen? ⟨b, j * 12, none⟩ = false ∧ w.frozen? ⟨b, j * 12 + 1, none⟩ = false ∧ w.frozen? ⟨b, j * 12 + 4, none⟩ = false ∧ w.frozen? ⟨b, j * 12 + 5, none⟩ = false ∧ w.frozen? ⟨b, j * 12 + 8, none⟩ = false ∧ w.frozen? ⟨b, j * 12 + 9, none⟩ = false ∧ ValsS S w (.slice (some ⟨b2, 0, none⟩) n2 c2) ∧ ValsS S w (.slice (some ⟨b3, 0, none⟩) n3 c3) ∧ ColsS S w (.slice (some ⟨b6, 0, none⟩) n6 c6) ∧ StrsS S w (.slice (some ⟨b7, 0, none⟩) n7 c7) ∧ StrsS S w (.slice (some ⟨b10, 0, none⟩) n10 c10) ∧ StrsS S w (.slice (some ⟨b11, 0, none⟩) n11 c11) := by
  obtain ⟨b', n', cap', f, e, hb, hn, hr, hf⟩ := h
  cases e
  have h0 := hf j hj 0 (by simp)
  have h1 := hf j hj 1 (by simp)
  have h2 := hf j hj 2 (by simp)
  have h3 := hf j hj 3 (by simp)
  have h4 := hf j hj 4 (by simp)
  have h5 := hf j hj 5 (by simp)
  have h6 := hf j hj 6 (by simp)
  have h7 := hf j hj 7 (by simp)
  have h8 := hf j hj 8 (by simp)
  have h9 := hf j hj 9 (by simp)
  have h10 := hf j hj 10 (by simp)
  have h11 := hf j hj 11 (by simp)
  simp only [List.length_cons, List.length_nil, Nat.zero_add, Nat.reduceAdd, List.getElem_cons_zero, List.getElem_cons_succ, Nat.add_zero] at h0 h1 h2 h3 h4 h5 h6 h7 h8 h9 h10 h11 hr
  obtain ⟨a0, e0⟩ := h0
  obtain ⟨a1, e1⟩ := h1
  obtain ⟨b2, n2, c2, e2, _, h2⟩ := h2.lit
  obtain ⟨b3, n3, c3, e3, _, h3⟩ := h3.lit
  obtain ⟨a4, e4⟩ := h4
  obtain ⟨a5, e5⟩ := h5
  obtain ⟨b6, n6, c6, e6, _, h6⟩ := h6.lit
  obtain ⟨b7, n7, c7, e7, _, h7⟩ := h7.lit
  obtain ⟨a8, e8⟩ := h8
  obtain ⟨a9, e9⟩ := h9
  obtain ⟨b10, n10, c10, e10, _, h10⟩ := h10.lit
  obtain ⟨b11, n11, c11, e11, _, h11⟩ := h11.lit
  exact ⟨f, a0, a1, b2, n2, c2, b3, n3, c3, a4, a5, b6, n6, c6, b7, n7, c7, a8, a9, b10, n10, c10, b11, n11, c11, hb, hr, e0, e1, e4, e5, e8, e9, by rw [← e0]; exact hr.cell (by omega), by rw [← e1]; exact hr.cell (by omega), by rw [← e2]; exact hr.cell (by omega), by rw [← e3]; exact hr.cell (by omega), by rw [← e4]; exact hr.cell (by omega), by rw [← e5]; exact hr.cell (by omega), by rw [← e6]; exact hr.cell (by omega), by rw [← e7]; exact hr.cell (by omega), by rw [← e8]; exact hr.cell (by omega), by rw [← e9]; exact hr.cell (by omega), by rw [← e10]; exact hr.cell (by omega), by rw [← e11]; exact hr.cell (by omega), hr.frozen _, hr.frozen _, hr.frozen _, hr.frozen _, hr.frozen _, hr.frozen _, h2, h3, h6, h7, h10, h11⟩

set_option maxRecDepth 100000 in
set_option maxHeartbeats 4000000 in
theorem markPartS_shape (S : Nat → Prop) (v : Value) (k : Nat) (w : World) (hv : PartsS S w v) (hk : k ≤ 4000000000000000000) :
    Calls Tryz.prog 37 #[v, .int .i64 k] w fun e w' => ∃ k' : Nat, e = .returned (.int .i64 k') ∧ k' ≤ k + 17592192335872 ∧ Marks S w w' := by
  obtain ⟨b, n, cap, rfl, hn, hv⟩ := hv.lit
  have HV : Hid (PartsS S w (.slice (some ⟨b, 0, none⟩) n cap)) := hv
  clear hv
  go_enter Tryz.func37, Tryz.ntmps37
  go_wp2
  go_loopw [1, 5] (fun c i wr => ∃ (j K : Nat), j ≤ n ∧ i = .int .i64 j ∧ c = .int .i64 K ∧ K ≤ k + j * 16777222 ∧ Hid (Marks S w wr)) (fun _ i _ => n - (intOf i).toNat)
  case atStart => exact ⟨0, k, Nat.zero_le _, rfl, rfl, by omega, Marks.refl _ _⟩
  case round =>
    obtain ⟨j, K, hj, rfl, rfl, hK, HM0⟩ := hrel
    by_cases hlt : j < n
    · have hlti : (j : Int) < n := by omega
      have hK9 : K ≤ 4000017592192335872 := by omega
      have HV0 : Hid (PartsS S wr (.slice (some ⟨b, 0, none⟩) n cap)) := PartsS.stays S _ _ _ _ HM0.out (kind1.refl _) HV.out
      obtain ⟨f, a0, a1, b2, n2, c2, b3, n3, c3, a4, a5, b6, n6, c6, b7, n7, c7, a8, a9, b10, n10, c10, b11, n11, c11, hS, hr, e0, e1, e4, e5, e8, e9, g0, g1, g2, g3, g4, g5, g6, g7, g8, g9, g10, g11, q0, q1, q4, q5, q8, q9, t2, t3, t6, t7, t10, t11⟩ := PartsS.at HV0.out j hlt
      go_wp2_with fail
      have MS0 : Marks S wr (wr.setCell ⟨b, j * 12, none⟩ (.int .i64 ((K : Int)))) := Marks.set hS hr fun _ => by show kind1 (f (j * 12)) _; rw [e0]; exact Or.inr (Or.inl ⟨_, _, rfl, rfl⟩)
      have HM1 : Hid (Marks S w (wr.setCell ⟨b, j * 12, none⟩ (.int .i64 ((K : Int))))) := HM0.out.trans MS0
      have HV1 : Hid (PartsS S (wr.setCell ⟨b, j * 12, none⟩ (.int .i64 ((K : Int)))) (.slice (some ⟨b, 0, none⟩) n cap)) := PartsS.stays S _ _ _ _ HM1.out (kind1.refl _) HV.out
      clear MS0
      clear hS hr e0 e1 e4 e5 e8 e9 g0 g1 g2 g3 g4 g5 g6 g7 g8 g9 g10 g11 q0 q1 q4 q5 q8 q9 t2 t3 t6 t7 t10 t11
      obtain ⟨u1, hu1⟩ : ∃ u, u = (wr.setCell ⟨b, j * 12, none⟩ (.int .i64 ((K : Int)))) := ⟨_, rfl⟩
      rw [← hu1] at HM1 HV1 ⊢
      clear hu1
      obtain ⟨L1, hL1⟩ : ∃ L : Nat, (K : Int) + 1 = (L : Int) := ⟨(K + 1), by omega⟩
      rw [hL1]
      refine (markText_any L1 _ (by omega)).mono ?_
      rintro e w1 ⟨rfl, b1x⟩
      generalize (if L1 = 0 then [109, 48] else 109 :: markD L1 []) = txt1
      have HM2 : Hid (Marks S w w1) := HM1.out.below b1x
      clear b1x
      have HV2 : Hid (PartsS S w1 (.slice (some ⟨b, 0, none⟩) n cap)) := PartsS.stays S _ _ _ _ HM2.out (kind1.refl _) HV.out
      obtain ⟨f, a0, a1, b2, n2, c2, b3, n3, c3, a4, a5, b6, n6, c6, b7, n7, c7, a8, a9, b10, n10, c10, b11, n11, c11, hS, hr, e0, e1, e4, e5, e8, e9, g0, g1, g2, g3, g4, g5, g6, g7, g8, g9, g10, g11, q0, q1, q4, q5, q8, q9, t2, t3, t6, t7, t10, t11⟩ := PartsS.at HV2.out j hlt
      go_wp2_with fail
      have MS0 : Marks S w1 (w1.setCell ⟨b, j * 12 + 1, none⟩ (.string ⟨txt1.toArray⟩)) := Marks.set hS hr fun _ => by show kind1 (f (j * 12 + 1)) _; rw [e1]; exact Or.inr (Or.inr (Or.inl ⟨_, _, rfl, rfl⟩))
      have HM3 : Hid (Marks S w (w1.setCell ⟨b, j * 12 + 1, none⟩ (.string ⟨txt1.toArray⟩))) := HM2.out.trans MS0
      have HV3 : Hid (PartsS S (w1.setCell ⟨b, j * 12 + 1, none⟩ (.string ⟨txt1.toArray⟩)) (.slice (some ⟨b, 0, none⟩) n cap)) := PartsS.stays S _ _ _ _ HM3.out (kind1.refl _) HV.out
      have HT1 : Hid (ValsS S (w1.setCell ⟨b, j * 12 + 1, none⟩ (.string ⟨txt1.toArray⟩)) (.slice (some ⟨b2, 0, none⟩) n2 c2)) := ValsS.stays S _ _ _ _ MS0 (kind1.refl _) t2
      clear MS0
      clear hS hr e0 e1 e4 e5 e8 e9 g0 g1 g2 g3 g4 g5 g6 g7 g8 g9 g10 g11 q0 q1 q4 q5 q8 q9 t2 t3 t6 t7 t10 t11
      obtain ⟨u2, hu2⟩ : ∃ u, u = (w1.setCell ⟨b, j * 12 + 1, none⟩ (.string ⟨txt1.toArray⟩)) := ⟨_, rfl⟩
      rw [← hu2] at HM3 HV3 HT1 ⊢
      clear hu2
      obtain ⟨L2, hL2⟩ : ∃ L : Nat, (L1 : Int) + 1 = (L : Int) := ⟨(L1 + 1), by omega⟩
      rw [hL2]
      refine (markValS_shape S _ L2 _ HT1.out (by omega)).mono ?_
      rintro e w2 ⟨K1, rfl, hK1, hM⟩
      have HM4 : Hid (Marks S w w2) := HM3.out.trans hM
      clear hM
      have HV4 : Hid (PartsS S w2 (.slice (some ⟨b, 0, none⟩) n cap)) := PartsS.stays S _ _ _ _ HM4.out (kind1.refl _) HV.out
      obtain ⟨f, a0, a1, b2, n2, c2, b3, n3, c3, a4, a5, b6, n6, c6, b7, n7, c7, a8, a9, b10, n10, c10, b11, n11, c11, hS, hr, e0, e1, e4, e5, e8, e9, g0, g1, g2, g3, g4, g5, g6, g7, g8, g9, g10, g11, q0, q1, q4, q5, q8, q9, t2, t3, t6, t7, t10, t11⟩ := PartsS.at HV4.out j hlt
      go_wp2_with fail
      have HT2 : Hid (ValsS S w2 (.slice (some ⟨b3, 0, none⟩) n3 c3)) := t3
      clear hS hr e0 e1 e4 e5 e8 e9 g0 g1 g2 g3 g4 g5 g6 g7 g8 g9 g10 g11 q0 q1 q4 q5 q8 q9 t2 t3 t6 t7 t10 t11
      obtain ⟨u3, hu3⟩ : ∃ u, u = w2 := ⟨_, rfl⟩
      rw [← hu3] at HM4 HV4 HT2 ⊢
      clear hu3
      refine (markValS_shape S _ K1 _ HT2.out (by omega)).mono ?_
      rintro e w3 ⟨K2, rfl, hK2, hM⟩
      have HM5 : Hid (Marks S w w3) := HM4.out.trans hM
      clear hM
      have HV5 : Hid (PartsS S w3 (.slice (some ⟨b, 0, none⟩) n cap)) := PartsS.stays S _ _ _ _ HM5.out (kind1.refl _) HV.out
      obtain ⟨f, a0, a1, b2, n2, c2, b3, n3, c3, a4, a5, b6, n6, c6, b7, n7, c7, a8, a9, b10, n10, c10, b11, n11, c11, hS, hr, e0, e1, e4, e5, e8, e9, g0, g1, g2, g3, g4, g5, g6, g7, g8, g9, g10, g11, q0, q1, q4, q5, q8, q9, t2, t3, t6, t7, t10, t11⟩ := PartsS.at HV5.out j hlt
      go_wp2_with fail
      have MS0 : Marks S w3 (w3.setCell ⟨b, j * 12 + 4, none⟩ (.int .i64 ((K2 : Int)))) := Marks.set hS hr fun _ => by show kind1 (f (j * 12 + 4)) _; rw [e4]; exact Or.inr (Or.inl ⟨_, _, rfl, rfl⟩)
      have HM6 : Hid (Marks S w (w3.setCell ⟨b, j * 12 + 4, none⟩ (.int .i64 ((K2 : Int))))) := HM5.out.trans MS0
      have HV6 : Hid (PartsS S (w3.setCell ⟨b, j * 12 + 4, none⟩ (.int .i64 ((K2 : Int)))) (.slice (some ⟨b, 0, none⟩) n cap)) := PartsS.stays S _ _ _ _ HM6.out (kind1.refl _) HV.out
      clear MS0
      clear hS hr e0 e1 e4 e5 e8 e9 g0 g1 g2 g3 g4 g5 g6 g7 g8 g9 g10 g11 q0 q1 q4 q5 q8 q9 t2 t3 t6 t7 t10 t11
      obtain ⟨u4, hu4⟩ : ∃ u, u = (w3.setCell ⟨b, j * 12 + 4, none⟩ (.int .i64 ((K2 : Int)))) := ⟨_, rfl⟩
      rw [← hu4] at HM6 HV6 ⊢
      clear hu4
      obtain ⟨L4, hL4⟩ : ∃ L : Nat, (K2 : Int) + 1 = (L : Int) := ⟨(K2 + 1), by omega⟩
      rw [hL4]
      refine (markText_any L4 _ (by omega)).mono ?_
      rintro e w4 ⟨rfl, b4x⟩
      generalize (if L4 = 0 then [109, 48] else 109 :: markD L4 []) = txt4
      have HM7 : Hid (Marks S w w4) := HM6.out.below b4x
      clear b4x
      have HV7 : Hid (PartsS S w4 (.slice (some ⟨b, 0, none⟩) n cap)) := PartsS.stays S _ _ _ _ HM7.out (kind1.refl _) HV.out
      obtain ⟨f, a0, a1, b2, n2, c2, b3, n3, c3, a4, a5, b6, n6, c6, b7, n7, c7, a8, a9, b10, n10, c10, b11, n11, c11, hS, hr, e0, e1, e4, e5, e8, e9, g0, g1, g2, g3, g4, g5, g6, g7, g8, g9, g10, g11, q0, q1, q4, q5, q8, q9, t2, t3, t6, t7, t10, t11⟩ := PartsS.at HV7.out j hlt
      go_wp2_with fail
      have MS0 : Marks S w4 (w4.setCell ⟨b, j * 12 + 5, none⟩ (.string ⟨txt4.toArray⟩)) := Marks.set hS hr fun _ => by show kind1 (f (j * 12 + 5)) _; rw [e5]; exact Or.inr (Or.inr (Or.inl ⟨_, _, rfl, rfl⟩))
      have HM8 : Hid (Marks S w (w4.setCell ⟨b, j * 12 + 5, none⟩ (.string ⟨txt4.toArray⟩))) := HM7.out.trans MS0
      have HV8 : Hid (PartsS S (w4.setCell ⟨b, j * 12 + 5, none⟩ (.string ⟨txt4.toArray⟩)) (.slice (some ⟨b, 0, none⟩) n cap)) := PartsS.stays S _ _ _ _ HM8.out (kind1.refl _) HV.out
      have HT3 : Hid (ColsS S (w4.setCell ⟨b, j * 12 + 5, none⟩ (.string ⟨txt4.toArray⟩)) (.slice (some ⟨b6, 0, none⟩) n6 c6)) := ColsS.stays S _ _ _ _ MS0 (kind1.refl _) t6
      clear MS0
      clear hS hr e0 e1 e4 e5 e8 e9 g0 g1 g2 g3 g4 g5 g6 g7 g8 g9 g10 g11 q0 q1 q4 q5 q8 q9 t2 t3 t6 t7 t10 t11
      obtain ⟨u5, hu5⟩ : ∃ u, u = (w4.setCell ⟨b, j * 12 + 5, none⟩ (.string ⟨txt4.toArray⟩)) := ⟨_, rfl⟩
      rw [← hu5] at HM8 HV8 HT3 ⊢
      clear hu5
      obtain ⟨L5, hL5⟩ : ∃ L : Nat, (L4 : Int) + 1 = (L : Int) := ⟨(L4 + 1), by omega⟩
      rw [hL5]
      refine (markColS_shape S _ L5 _ HT3.out (by omega)).mono ?_
      rintro e w5 ⟨K3, rfl, hK3, hM⟩
      have HM9 : Hid (Marks S w w5) := HM8.out.trans hM
      clear hM
      have HV9 : Hid (PartsS S w5 (.slice (some ⟨b, 0, none⟩) n cap)) := PartsS.stays S _ _ _ _ HM9.out (kind1.refl _) HV.out
      obtain ⟨f, a0, a1, b2, n2, c2, b3, n3, c3, a4, a5, b6, n6, c6, b7, n7, c7, a8, a9, b10, n10, c10, b11, n11, c11, hS, hr, e0, e1, e4, e5, e8, e9, g0, g1, g2, g3, g4, g5, g6, g7, g8, g9, g10, g11, q0, q1, q4, q5, q8, q9, t2, t3, t6, t7, t10, t11⟩ := PartsS.at HV9.out j hlt
      go_wp2_with fail
      have HT4 : Hid (StrsS S w5 (.slice (some ⟨b7, 0, none⟩) n7 c7)) := t7
      clear hS hr e0 e1 e4 e5 e8 e9 g0 g1 g2 g3 g4 g5 g6 g7 g8 g9 g10 g11 q0 q1 q4 q5 q8 q9 t2 t3 t6 t7 t10 t11
      obtain ⟨u6, hu6⟩ : ∃ u, u = w5 := ⟨_, rfl⟩
      rw [← hu6] at HM9 HV9 HT4 ⊢
      clear hu6
      refine (markStringS_shape S _ K3 _ HT4.out (by omega)).mono ?_
      rintro e w6 ⟨K4, rfl, hK4, hM⟩
      have HM10 : Hid (Marks S w w6) := HM9.out.trans hM
      clear hM
      have HV10 : Hid (PartsS S w6 (.slice (some ⟨b, 0, none⟩) n cap)) := PartsS.stays S _ _ _ _ HM10.out (kind1.refl _) HV.out
      obtain ⟨f, a0, a1, b2, n2, c2, b3, n3, c3, a4, a5, b6, n6, c6, b7, n7, c7, a8, a9, b10, n10, c10, b11, n11, c11, hS, hr, e0, e1, e4, e5, e8, e9, g0, g1, g2, g3, g4, g5, g6, g7, g8, g9, g10, g11, q0, q1, q4, q5, q8, q9, t2, t3, t6, t7, t10, t11⟩ := PartsS.at HV10.out j hlt
      go_wp2_with fail
      clear hS hr e0 e1 e4 e5 e8 e9 g0 g1 g2 g3 g4 g5 g6 g7 g8 g9 g10 g11 q0 q1 q4 q5 q8 q9 t2 t3 t6 t7 t10 t11
      obtain ⟨u7, hu7⟩ : ∃ u, u = w6 := ⟨_, rfl⟩
      rw [← hu7] at HM10 HV10 ⊢
      clear hu7
      refine (markText_any K4 _ (by omega)).mono ?_
      rintro e w7 ⟨rfl, b7x⟩
      generalize (if K4 = 0 then [109, 48] else 109 :: markD K4 []) = txt7
      have HM11 : Hid (Marks S w w7) := HM10.out.below b7x
      clear b7x
      have HV11 : Hid (PartsS S w7 (.slice (some ⟨b, 0, none⟩) n cap)) := PartsS.stays S _ _ _ _ HM11.out (kind1.refl _) HV.out
      obtain ⟨f, a0, a1, b2, n2, c2, b3, n3, c3, a4, a5, b6, n6, c6, b7, n7, c7, a8, a9, b10, n10, c10, b11, n11, c11, hS, hr, e0, e1, e4, e5, e8, e9, g0, g1, g2, g3, g4, g5, g6, g7, g8, g9, g10, g11, q0, q1, q4, q5, q8, q9, t2, t3, t6, t7, t10, t11⟩ := PartsS.at HV11.out j hlt
      go_wp2_with fail
      have MS0 : Marks S w7 (w7.setCell ⟨b, j * 12 + 8, none⟩ (.string ⟨txt7.toArray⟩)) := Marks.set hS hr fun _ => by show kind1 (f (j * 12 + 8)) _; rw [e8]; exact Or.inr (Or.inr (Or.inl ⟨_, _, rfl, rfl⟩))
      have HM12 : Hid (Marks S w (w7.setCell ⟨b, j * 12 + 8, none⟩ (.string ⟨txt7.toArray⟩))) := HM11.out.trans MS0
      have HV12 : Hid (PartsS S (w7.setCell ⟨b, j * 12 + 8, none⟩ (.string ⟨txt7.toArray⟩)) (.slice (some ⟨b, 0, none⟩) n cap)) := PartsS.stays S _ _ _ _ HM12.out (kind1.refl _) HV.out
      clear MS0
      clear hS hr e0 e1 e4 e5 e8 e9 g0 g1 g2 g3 g4 g5 g6 g7 g8 g9 g10 g11 q0 q1 q4 q5 q8 q9 t2 t3 t6 t7 t10 t11
      obtain ⟨u8, hu8⟩ : ∃ u, u = (w7.setCell ⟨b, j * 12 + 8, none⟩ (.string ⟨txt7.toArray⟩)) := ⟨_, rfl⟩
      rw [← hu8] at HM12 HV12 ⊢
      clear hu8
      obtain ⟨L8, hL8⟩ : ∃ L : Nat, (K4 : Int) + 1 = (L : Int) := ⟨(K4 + 1), by omega⟩
      rw [hL8]
      refine (markText_any L8 _ (by omega)).mono ?_
      rintro e w8 ⟨rfl, b8x⟩
      generalize (if L8 = 0 then [109, 48] else 109 :: markD L8 []) = txt8
      have HM13 : Hid (Marks S w w8) := HM12.out.below b8x
      clear b8x
      have HV13 : Hid (PartsS S w8 (.slice (some ⟨b, 0, none⟩) n cap)) := PartsS.stays S _ _ _ _ HM13.out (kind1.refl _) HV.out
      obtain ⟨f, a0, a1, b2, n2, c2, b3, n3, c3, a4, a5, b6, n6, c6, b7, n7, c7, a8, a9, b10, n10, c10, b11, n11, c11, hS, hr, e0, e1, e4, e5, e8, e9, g0, g1, g2, g3, g4, g5, g6, g7, g8, g9, g10, g11, q0, q1, q4, q5, q8, q9, t2, t3, t6, t7, t10, t11⟩ := PartsS.at HV13.out j hlt
      go_wp2_with fail
      have MS0 : Marks S w8 (w8.setCell ⟨b, j * 12 + 9, none⟩ (.string ⟨txt8.toArray⟩)) := Marks.set hS hr fun _ => by show kind1 (f (j * 12 + 9)) _; rw [e9]; exact Or.inr (Or.inr (Or.inl ⟨_, _, rfl, rfl⟩))
      have HM14 : Hid (Marks S w (w8.setCell ⟨b, j * 12 + 9, none⟩ (.string ⟨txt8.toArray⟩))) := HM13.out.trans MS0
      have HV14 : Hid (PartsS S (w8.setCell ⟨b, j * 12 + 9, none⟩ (.string ⟨txt8.toArray⟩)) (.slice (some ⟨b, 0, none⟩) n cap)) := PartsS.stays S _ _ _ _ HM14.out (kind1.refl _) HV.out
      have HT5 : Hid (StrsS S (w8.setCell ⟨b, j * 12 + 9, none⟩ (.string ⟨txt8.toArray⟩)) (.slice (some ⟨b10, 0, none⟩) n10 c10)) := StrsS.stays S _ _ _ _ MS0 (kind1.refl _) t10
      clear MS0
      clear hS hr e0 e1 e4 e5 e8 e9 g0 g1 g2 g3 g4 g5 g6 g7 g8 g9 g10 g11 q0 q1 q4 q5 q8 q9 t2 t3 t6 t7 t10 t11
      obtain ⟨u9, hu9⟩ : ∃ u, u = (w8.setCell ⟨b, j * 12 + 9, none⟩ (.string ⟨txt8.toArray⟩)) := ⟨_, rfl⟩
      rw [← hu9] at HM14 HV14 HT5 ⊢
      clear hu9
      obtain ⟨L9, hL9⟩ : ∃ L : Nat, (L8 : Int) + 1 = (L : Int) := ⟨(L8 + 1), by omega⟩
      rw [hL9]
      refine (markStringS_shape S _ L9 _ HT5.out (by omega)).mono ?_
      rintro e w9 ⟨K5, rfl, hK5, hM⟩
      have HM15 : Hid (Marks S w w9) := HM14.out.trans hM
      clear hM
      have HV15 : Hid (PartsS S w9 (.slice (some ⟨b, 0, none⟩) n cap)) := PartsS.stays S _ _ _ _ HM15.out (kind1.refl _) HV.out
      obtain ⟨f, a0, a1, b2, n2, c2, b3, n3, c3, a4, a5, b6, n6, c6, b7, n7, c7, a8, a9, b10, n10, c10, b11, n11, c11, hS, hr, e0, e1, e4, e5, e8, e9, g0, g1, g2, g3, g4, g5, g6, g7, g8, g9, g10, g11, q0, q1, q4, q5, q8, q9, t2, t3, t6, t7, t10, t11⟩ := PartsS.at HV15.out j hlt
      go_wp2_with fail
      have HT6 : Hid (StrsS S w9 (.slice (some ⟨b11, 0, none⟩) n11 c11)) := t11
      clear hS hr e0 e1 e4 e5 e8 e9 g0 g1 g2 g3 g4 g5 g6 g7 g8 g9 g10 g11 q0 q1 q4 q5 q8 q9 t2 t3 t6 t7 t10 t11
      obtain ⟨u10, hu10⟩ : ∃ u, u = w9 := ⟨_, rfl⟩
      rw [← hu10] at HM15 HV15 HT6 ⊢
      clear hu10
      refine (markStringS_shape S _ K5 _ HT6.out (by omega)).mono ?_
      rintro e w10 ⟨K6, rfl, hK6, hM⟩
      have HM16 : Hid (Marks S w w10) := HM15.out.trans hM
      clear hM
      have HV16 : Hid (PartsS S w10 (.slice (some ⟨b, 0, none⟩) n cap)) := PartsS.stays S _ _ _ _ HM16.out (kind1.refl _) HV.out
      obtain ⟨f, a0, a1, b2, n2, c2, b3, n3, c3, a4, a5, b6, n6, c6, b7, n7, c7, a8, a9, b10, n10, c10, b11, n11, c11, hS, hr, e0, e1, e4, e5, e8, e9, g0, g1, g2, g3, g4, g5, g6, g7, g8, g9, g10, g11, q0, q1, q4, q5, q8, q9, t2, t3, t6, t7, t10, t11⟩ := PartsS.at HV16.out j hlt
      go_wp2
      clear hS hr e0 e1 e4 e5 e8 e9 g0 g1 g2 g3 g4 g5 g6 g7 g8 g9 g10 g11 q0 q1 q4 q5 q8 q9 t2 t3 t6 t7 t10 t11
      go_round
      case rel => exact ⟨j + 1, K6, by omega, by go_num, by go_num, by omega, HM16⟩
      case measure => simp [intOf]; omega
    · have hlti : (n : Int) ≤ j := by omega
      go_wp2
      go_ret
      exact ⟨K, rfl, by omega, HM0.out⟩
end Go.Proofs.YtikccmgpmbnkfaaGreat

namespace Go.Proofs.YtikccmgpmbnkfaaGreat
open Go.ChangeShapes Go.WideShapes Go.ChangeAt Go.RowKit

/-- Parts, read, with their shape. -/
def PartsX (w : World) (v : Value) (ts : List Ptc) : Prop := PartsV w v ts ∧ ∃ S, PartsS S w v
theorem PartsX.on {w w' : World} {v : Value} {ts : List Ptc} (h : PartsX w v ts) (b : Below w.heap.size w w') : PartsX w' v ts := by
  obtain ⟨h1, S, h2⟩ := h
  exact ⟨h1.on b, S, PartsS.good.holds S _ _ _ (fun c _ hl => b.block c hl) h2⟩
theorem PartsX.lit {w : World} {v : Value} {ts : List Ptc} (h : PartsX w v ts) : ∃ b cap, v = .slice (some ⟨b, 0, none⟩) ts.length cap ∧ ts.length ≤ cap ∧ cap ≤ maxLen ∧ PartsX w (.slice (some ⟨b, 0, none⟩) ts.length cap) ts := by
  obtain ⟨h1, S, h2⟩ := h
  obtain ⟨a, cap, rfl, g1, g2, g3⟩ := h1.lit
  obtain ⟨b, n, c, e, _, h2'⟩ := h2.lit
  cases e
  exact ⟨b, cap, rfl, g1, g2, g3, S, h2'⟩
theorem PartsX.part {w : World} {b n cap : Nat} {ts : List Ptc} (h : PartsX w (.slice (some ⟨b, 0, none⟩) n cap) ts) (k : Nat) (hk : k < ts.length) : ∃ kb kp rb rp cb cp ob op yb yp zb zp,
    (ValsV w (.slice (some ⟨kb, 0, none⟩) ts[k].st.key.length kp) ts[k].st.key ∧ ValsV w (.slice (some ⟨rb, 0, none⟩) ts[k].st.row.length rp) ts[k].st.row ∧ ColsV w (.slice (some ⟨cb, 0, none⟩) ts[k].st.ddl.cols.length cp) ts[k].st.ddl.cols ∧ StrsV w (.slice (some ⟨ob, 0, none⟩) ts[k].st.ddl.keys.length op) ts[k].st.ddl.keys ∧ StrsV w (.slice (some ⟨yb, 0, none⟩) ts[k].cols.length yp) ts[k].cols ∧ StrsV w (.slice (some ⟨zb, 0, none⟩) ts[k].keys.length zp) ts[k].keys) ∧
    w.cell? ⟨b, k * 12, none⟩ = some (.int .i64 ts[k].st.kind) ∧ w.cell? ⟨b, k * 12 + 1, none⟩ = some (.string ts[k].st.table) ∧ w.cell? ⟨b, k * 12 + 2, none⟩ = some (.slice (some ⟨kb, 0, none⟩) ts[k].st.key.length kp) ∧ w.cell? ⟨b, k * 12 + 3, none⟩ = some (.slice (some ⟨rb, 0, none⟩) ts[k].st.row.length rp) ∧ w.cell? ⟨b, k * 12 + 4, none⟩ = some (.int .i64 ts[k].st.ddl.kind) ∧ w.cell? ⟨b, k * 12 + 5, none⟩ = some (.string ts[k].st.ddl.table) ∧ w.cell? ⟨b, k * 12 + 6, none⟩ = some (.slice (some ⟨cb, 0, none⟩) ts[k].st.ddl.cols.length cp) ∧ w.cell? ⟨b, k * 12 + 7, none⟩ = some (.slice (some ⟨ob, 0, none⟩) ts[k].st.ddl.keys.length op) ∧ w.cell? ⟨b, k * 12 + 8, none⟩ = some (.string ts[k].st.ddl.name) ∧ w.cell? ⟨b, k * 12 + 9, none⟩ = some (.string ts[k].st.ddl.to) ∧ w.cell? ⟨b, k * 12 + 10, none⟩ = some (.slice (some ⟨yb, 0, none⟩) ts[k].cols.length yp) ∧ w.cell? ⟨b, k * 12 + 11, none⟩ = some (.slice (some ⟨zb, 0, none⟩) ts[k].keys.length zp) := by
  obtain ⟨h1, S, h2⟩ := h
  have hn : n = ts.length := by
    obtain ⟨a', cap', e, _⟩ := h1.lit
    simp at e
    exact e.2.1
  obtain ⟨b', off, ka, kp, ra, rp, ca, cp, oa, op, ya, yp, za, zp, ea, hv, d0, d1, d2, d3, d4, d5, d6, d7, d8, d9, d10, d11⟩ := h1.part k hk
  simp only [Option.some.injEq, Addr.mk.injEq] at ea
  obtain ⟨rfl, rfl, _⟩ := ea
  simp only [Nat.zero_add] at d0 d1 d2 d3 d4 d5 d6 d7 d8 d9 d10 d11
  obtain ⟨f, a0, a1, b2, n2, c2, b3, n3, c3, a4, a5, b6, n6, c6, b7, n7, c7, a8, a9, b10, n10, c10, b11, n11, c11, q⟩ := h2.at k (by omega)
  obtain ⟨_, _, _, _, _, _, _, _, _, _, g2, g3, _, _, g6, g7, _, _, g10, g11, _⟩ := q
  have e2 := d2.symm.trans g2
  have e3 := d3.symm.trans g3
  have e6 := d6.symm.trans g6
  have e7 := d7.symm.trans g7
  have e10 := d10.symm.trans g10
  have e11 := d11.symm.trans g11
  simp only [Option.some.injEq, Value.slice.injEq] at e2 e3 e6 e7 e10 e11
  obtain ⟨rfl, rfl, rfl⟩ := e2
  obtain ⟨rfl, rfl, rfl⟩ := e3
  obtain ⟨rfl, rfl, rfl⟩ := e6
  obtain ⟨rfl, rfl, rfl⟩ := e7
  obtain ⟨rfl, rfl, rfl⟩ := e10
  obtain ⟨rfl, rfl, rfl⟩ := e11
  obtain ⟨k', r', c', o', y', z', e, v1, v2, v3, v4, v5, v6⟩ := hv
  simp at e
  obtain ⟨rfl, rfl, rfl, rfl, rfl, rfl⟩ := e
  exact ⟨_, _, _, _, _, _, _, _, _, _, _, _, ⟨v1, v2, v3, v4, v5, v6⟩, d0, d1, d2, d3, d4, d5, d6, d7, d8, d9, d10, d11⟩

set_option maxRecDepth 100000 in
/-- laws.markBatch -/
theorem markBatch_shape (S : Nat → Prop) (n p : Int) (v : Value) (k : Nat) (w : World) (hv : PartsS S w v) (hk : k ≤ 4000000000000000000) :
    Calls Tryz.prog 12 #[.agg #[.int .i64 n, .int .i64 p, v], .int .i64 k] w fun e w' => ∃ k' : Nat, e = .returned (.int .i64 k') ∧ k' ≤ k + 17592192335872 ∧ Marks S w w' := by
  obtain ⟨b, m, cap, rfl, hn, hv⟩ := hv.lit
  have HM0 : Hid (Marks S w (w.alloc (.cells #[.int .i64 n, .int .i64 p, .slice (some ⟨b, 0, none⟩) m cap] 33))) := (Marks.refl S w).below (ch_alloc (Below.refl _ _) _)
  have HV : Hid (PartsS S (w.alloc (.cells #[.int .i64 n, .int .i64 p, .slice (some ⟨b, 0, none⟩) m cap] 33)) (.slice (some ⟨b, 0, none⟩) m cap)) := PartsS.stays S _ _ _ _ HM0.out (kind1.refl _) hv
  clear hv
  go_enter Tryz.func12, Tryz.ntmps12
  go_wp2_with fail
  refine (markPartS_shape S _ k _ HV.out hk).mono ?_
  rintro e w1 ⟨K, rfl, hK, hM⟩
  have HM1 : Hid (Marks S w w1) := HM0.out.trans hM
  clear hM
  go_wp2
  go_ret
  exact ⟨K, rfl, hK, HM1.out⟩
end Go.Proofs.YtikccmgpmbnkfaaGreat
