/- Arguments opened: columns, rows of elements. Values and rows among the arguments, opened. A row among the arguments, opened. Rows among the arguments, opened. Tables among the arguments, opened. Catalogs among the arguments, opened. Stores among the arguments, opened. -/
import Derived.Test.YtiijahoheajppabCl
import Derived.Test.YtiijahoheajppabCh
import Derived.Carry
import Derived.Lib.SmallJoins
import Derived.Test.YtiijahoheajppabVs
import Derived.Test.YtiijahoheajppabRs
import Derived.Test.YtiijahoheajppabTab
import Derived.Test.YtiijahoheajppabCt
import Derived.Test.YtiijahoheajppabDb
namespace Go.Proofs.Ytiijahoheajppab
open Go.ChangeShapes Go.WideShapes Go.ChangeAt Go.RowKit

theorem cells1 : Try.prog.cellsOf 9 = 1 ∧ Try.prog.cellsOf 3 = 1 ∧ Try.prog.cellsOf 4 = 1 ∧ Try.prog.cellsOf 169 = 3 ∧ Try.prog.cellsOf 171 = 7 := ⟨by kernel_rfl, by kernel_rfl, by kernel_rfl, by kernel_rfl, by kernel_rfl⟩

section
variable {H : Type} {enc : TypeId × Value → H} {w : World} {base : Nat} {spare : Nat → Bool} {held : Bool}
set_option maxRecDepth 100000 in
/-- A value, opened. -/
theorem open_val {n : Nat} {cs : List Value} {y : DataW H × List MemPlace} (h : DataW.trod enc Try.prog w base spare held n 169 cs = some y) : ∃ (t m : Int) (s : ByteArray), cs = [.int .i64 t, .int .i64 m, .string s] ∧ s.size ≤ maxLen := by
  obtain ⟨xs, k, rfl, rfl, hl, hlen, hf⟩ := DataW.trod_struct Try.underlying169 h
  obtain ⟨z1, z2, z3, z4, z5⟩ := cells1
  rw [z4] at hl
  have h0 : DataW.trod enc Try.prog w base spare held k 3 ((cs.drop 0).take (Try.prog.cellsOf 3)) = xs[0]? := hf 0 _ rfl
  have h1 : DataW.trod enc Try.prog w base spare held k 3 ((cs.drop 1).take (Try.prog.cellsOf 3)) = xs[1]? := hf 1 _ rfl
  have h2 : DataW.trod enc Try.prog w base spare held k 9 ((cs.drop 2).take (Try.prog.cellsOf 9)) = xs[2]? := hf 2 _ rfl
  match xs, hlen, cs, hl with
  | [x0, x1, x2], _, [a0, a1, a2], _ =>
    simp only [z1, z2] at h0 h1 h2
    obtain ⟨t, e0, _, _⟩ := DataW.trod_int Try.underlying3 (h0.trans rfl)
    obtain ⟨m, e1, _, _⟩ := DataW.trod_int Try.underlying3 (h1.trans rfl)
    obtain ⟨s, e2, _, hs⟩ := DataW.trod_string Try.underlying9 (h2.trans rfl)
    simp at e0 e1 e2
    exact ⟨t, m, s, by rw [e0, e1, e2], hs⟩
set_option maxRecDepth 100000 in
/-- A column, opened. -/
theorem open_col {n : Nat} {cs : List Value} {y : DataW H × List MemPlace} (h : DataW.trod enc Try.prog w base spare held n 171 cs = some y) : ∃ c : Cl, cs = c.cells.toList ∧ c.name.size ≤ maxLen ∧ c.ds.size ≤ maxLen := by
  obtain ⟨xs, k, rfl, rfl, hl, hlen, hf⟩ := DataW.trod_struct Try.underlying171 h
  obtain ⟨z1, z2, z3, z4, z5⟩ := cells1
  rw [z5] at hl
  have h0 : DataW.trod enc Try.prog w base spare held k 9 ((cs.drop 0).take (Try.prog.cellsOf 9)) = xs[0]? := hf 0 _ rfl
  have h1 : DataW.trod enc Try.prog w base spare held k 3 ((cs.drop 1).take (Try.prog.cellsOf 3)) = xs[1]? := hf 1 _ rfl
  have h2 : DataW.trod enc Try.prog w base spare held k 4 ((cs.drop 2).take (Try.prog.cellsOf 4)) = xs[2]? := hf 2 _ rfl
  have h3 : DataW.trod enc Try.prog w base spare held k 4 ((cs.drop 3).take (Try.prog.cellsOf 4)) = xs[3]? := hf 3 _ rfl
  have h4 : DataW.trod enc Try.prog w base spare held k 169 ((cs.drop 4).take (Try.prog.cellsOf 169)) = xs[4]? := hf 4 _ rfl
  match xs, hlen, cs, hl with
  | [x0, x1, x2, x3, x4], _, [a0, a1, a2, a3, a4, a5, a6], _ =>
    simp only [z1, z2, z3, z4] at h0 h1 h2 h3 h4
    obtain ⟨s, e0, _, hs⟩ := DataW.trod_string Try.underlying9 (h0.trans rfl)
    obtain ⟨t, e1, _, _⟩ := DataW.trod_int Try.underlying3 (h1.trans rfl)
    obtain ⟨b1, e2, _⟩ := DataW.trod_bool Try.underlying4 (h2.trans rfl)
    obtain ⟨b2, e3, _⟩ := DataW.trod_bool Try.underlying4 (h3.trans rfl)
    obtain ⟨dt, dn, ds, e4, hd⟩ := open_val (h4.trans rfl)
    simp at e0 e1 e2 e3 e4
    exact ⟨⟨s, t, b1, b2, dt, dn, ds⟩, by rw [e0, e1, e2, e3, e4.1, e4.2.1, e4.2.2], hs, hd⟩

theorem list_of {α : Type} {p : Nat → α → Prop} : ∀ (n : Nat), (∀ i, i < n → ∃ a, p i a) → ∃ L : List α, L.length = n ∧ ∀ i (h : i < L.length), p i L[i]
  | 0, _ => ⟨[], rfl, fun i h => by simp at h⟩
  | n + 1, h => by
    obtain ⟨L, hl, hp⟩ := list_of n fun i hi => h i (by omega)
    obtain ⟨a, ha⟩ := h n (by omega)
    refine ⟨L ++ [a], by simp [hl], fun i hi => ?_⟩
    by_cases hin : i < L.length
    · rw [List.getElem_append_left hin]; exact hp i hin
    · simp at hi
      have : i = n := by omega
      subst this
      rw [List.getElem_append_right (by omega)]
      simpa [hl] using ha

set_option maxRecDepth 100000 in
/-- A slice, opened. -/
theorem open_row {α : Type} {t e : TypeId} {z : Nat} (cells : α → Array Value) (ok : α → Prop) (hz : ∀ a, (cells a).size = z) (hz0 : 0 < z) (ht : Try.prog.underlying t = some (.slice e)) (hc : Try.prog.cellsOf e = z)
    (hel : ∀ n cs y, DataW.trod enc Try.prog w base spare held n e cs = some y → ∃ a, cs = (cells a).toList ∧ ok a) {n : Nat} {cs : List Value} {y : DataW H × List MemPlace} (h : DataW.trod enc Try.prog w base spare held n t cs = some y) :
    ∃ (a : Option Addr) (L : List α) (cap : Nat), cs = [.slice a L.length cap] ∧ L.length ≤ cap ∧ cap ≤ maxLen ∧ RowAt w a z (L.map cells) ∧ ∀ x ∈ L, ok x := by
  rcases DataW.trod_slice ht h with ⟨rfl, rfl⟩ | ⟨a, len, cap, elems, rest, k, _, rfl, _, _, hlc, hcm, hlen, hx, _, _⟩
  · exact ⟨.none, [], 0, rfl, Nat.le_refl _, Nat.zero_le _, RowAt.nil _ _ _, fun x hx => by simp at hx⟩
  · rw [hc] at hx
    have hx' : ∀ i, i < len → ∃ x : α, ok x ∧ ∀ j, j < z → w.cell? ((a.add (i * z)).add j) = (cells x)[j]? := fun i hi => by
      have := hx i hi
      rw [List.getElem?_eq_getElem (by omega)] at this
      obtain ⟨cs', h1, h2⟩ := Option.bind_eq_some_iff.1 this
      obtain ⟨x, rfl, hk⟩ := hel _ _ _ h2
      obtain ⟨_, _, h3⟩ := World.cells?_some h1
      exact ⟨x, hk, fun j hj => by rw [h3 j hj]; simp⟩
    obtain ⟨L, hL, hp⟩ := list_of len hx'
    subst hL
    refine ⟨some a, L, cap, rfl, hlc, hcm, ⟨fun x hx => ?_, ?_⟩, fun x hx => ?_⟩
    · obtain ⟨y, _, rfl⟩ := List.mem_map.1 hx; exact hz y
    · by_cases h0 : L.length = 0
      · left; simp [List.length_eq_zero_iff.1 h0]
      · right
        obtain ⟨b, off, sp⟩ := a
        have hsp : sp = .none := by
          have h1 := (hp 0 (by omega)).2 0 hz0
          rw [Array.getElem?_eq_getElem (by rw [hz]; exact hz0)] at h1
          unfold World.cell? at h1
          simp [Addr.add] at h1
          split at h1
          · simp at h1; exact h1.1
          · cases h1
        subst hsp
        refine ⟨b, off, rfl, fun i hi j hj => ?_⟩
        simp only [List.length_map] at hi
        rw [List.getElem_map, ← (hp i hi).2 j hj, add_add]
    · obtain ⟨i, hi, rfl⟩ := List.getElem_of_mem hx; exact (hp i hi).1
end
end Go.Proofs.Ytiijahoheajppab

namespace Go.Proofs.Ytiijahoheajppab
open Go.ChangeShapes Go.WideShapes Go.ChangeAt Go.RowKit
section
variable {H : Type} {enc : TypeId × Value → H} {w : World} {base : Nat} {spare : Nat → Bool} {held : Bool}
theorem open_vals {n : Nat} {cs : List Value} {y : DataW H × List MemPlace} (h : DataW.trod enc Try.prog w base spare held n 155 cs = some y) : ∃ v L, cs = [v] ∧ ValsV w v L ∧ vfit L := by
  obtain ⟨a, L, cap, rfl, h1, h2, h3, h4⟩ := open_row Vc.cells (fun c : Vc => c.s.size ≤ maxLen) (z := 3) (fun _ => rfl) (by omega) Try.underlying155 cells1.2.2.2.1 (fun n cs y h => by
    obtain ⟨t, m, s, rfl, hs⟩ := open_val h; exact ⟨⟨t, m, s⟩, rfl, hs⟩) h
  exact ⟨_, L, rfl, ⟨a, cap, rfl, h1, h2, h3⟩, h4⟩
end
end Go.Proofs.Ytiijahoheajppab

namespace Go.Proofs.Ytiijahoheajppab
open Go.ChangeShapes Go.WideShapes Go.ChangeAt Go.RowKit
theorem cellsR : Try.prog.cellsOf 157 = 1 ∧ Try.prog.cellsOf 155 = 1 := ⟨by kernel_rfl, by kernel_rfl⟩
section
variable {H : Type} {enc : TypeId × Value → H} {w : World} {base : Nat} {spare : Nat → Bool} {held : Bool}
set_option maxRecDepth 100000 in
theorem open_rw {n : Nat} {cs : List Value} {y : DataW H × List MemPlace} (h : DataW.trod enc Try.prog w base spare held n 157 cs = some y) : ∃ v vs, cs = [v] ∧ ValsV w v vs ∧ vfit vs := by
  obtain ⟨xs, k, rfl, rfl, hl, hlen, hf⟩ := DataW.trod_struct Try.underlying157 h
  obtain ⟨z1, z2⟩ := cellsR
  rw [z1] at hl
  have h0 : DataW.trod enc Try.prog w base spare held k 155 ((cs.drop 0).take (Try.prog.cellsOf 155)) = xs[0]? := hf 0 _ rfl
  match xs, hlen, cs, hl with
  | [x0], _, [a0], _ =>
    simp only [z2] at h0
    obtain ⟨v, vs, e, hv, hft⟩ := open_vals (h0.trans rfl)
    simp at e
    exact ⟨v, vs, by rw [e], hv, hft⟩
end
end Go.Proofs.Ytiijahoheajppab

namespace Go.Proofs.Ytiijahoheajppab
open Go.ChangeShapes Go.WideShapes Go.ChangeAt Go.RowKit
section
variable {H : Type} {enc : TypeId × Value → H} {w : World} {base : Nat} {spare : Nat → Bool} {held : Bool}
theorem open_rows {n : Nat} {cs : List Value} {y : DataW H × List MemPlace} (h : DataW.trod enc Try.prog w base spare held n 92 cs = some y) : ∃ v rs, cs = [v] ∧ RowsV w v rs ∧ rfits rs := by
  obtain ⟨a, L, cap, rfl, h1, h2, h3, h4⟩ := open_row (fun p : Value × List Vc => one1 p.1) (fun p => ValsV w p.1 p.2 ∧ vfit p.2) (z := 1) (fun p => rfl) (by omega) Try.underlying92 cellsR.1 (fun n cs y h => by
    obtain ⟨v, vs, rfl, hv, hf⟩ := open_rw h
    exact ⟨(v, vs), rfl, hv, hf⟩) h
  refine ⟨_, L.map (fun p => p.2), rfl, ⟨a, cap, L.map (fun p => p.1), by simp, by simpa using h1, h2, by rw [List.map_map]; exact h3, by simp, fun i hi hg => ?_⟩, fun t ht => ?_⟩
  · simp only [List.getElem_map]
    exact (h4 _ (List.getElem_mem _)).1
  · obtain ⟨p, hp, rfl⟩ := List.mem_map.1 ht
    exact (h4 p hp).2
end
end Go.Proofs.Ytiijahoheajppab

namespace Go.Proofs.Ytiijahoheajppab
open Go.ChangeShapes Go.WideShapes Go.ChangeAt Go.RowKit
theorem cellsT2 : Try.prog.cellsOf 130 = 1 ∧ Try.prog.cellsOf 29 = 1 := ⟨by kernel_rfl, by kernel_rfl⟩
theorem cellsT : Try.prog.cellsOf 130 = 1 ∧ Try.prog.cellsOf 29 = 1 ∧ Try.prog.cellsOf 132 = 3 := ⟨by kernel_rfl, by kernel_rfl, by kernel_rfl⟩
section
variable {H : Type} {enc : TypeId × Value → H} {w : World} {base : Nat} {spare : Nat → Bool} {held : Bool}
theorem open_cols {n : Nat} {cs : List Value} {y : DataW H × List MemPlace} (h : DataW.trod enc Try.prog w base spare held n 130 cs = some y) : ∃ v L, cs = [v] ∧ ColsV w v L ∧ ∀ c ∈ L, c.name.size ≤ maxLen ∧ c.ds.size ≤ maxLen := by
  obtain ⟨a, L, cap, rfl, h1, h2, h3, h4⟩ := open_row Cl.cells (fun c : Cl => c.name.size ≤ maxLen ∧ c.ds.size ≤ maxLen) (z := 7) (fun _ => rfl) (by omega) Try.underlying130 cells1.2.2.2.2 (fun n cs y h => open_col h) h
  exact ⟨_, L, rfl, ⟨a, cap, rfl, h1, h2, h3⟩, h4⟩
theorem open_strs {n : Nat} {cs : List Value} {y : DataW H × List MemPlace} (h : DataW.trod enc Try.prog w base spare held n 29 cs = some y) : ∃ v L, cs = [v] ∧ StrsV w v L ∧ ∀ s ∈ L, s.size ≤ maxLen := by
  obtain ⟨a, L, cap, rfl, h1, h2, h3, h4⟩ := open_row strX (fun s : ByteArray => s.size ≤ maxLen) (z := 1) (fun _ => rfl) (by omega) Try.underlying29 cells1.1 (fun n cs y h => by
    obtain ⟨s, rfl, _, hs⟩ := DataW.trod_string Try.underlying9 h; exact ⟨s, rfl, hs⟩) h
  exact ⟨_, L, rfl, ⟨a, cap, rfl, h1, h2, h3⟩, h4⟩
set_option maxRecDepth 100000 in
theorem open_tab {n : Nat} {cs : List Value} {y : DataW H × List MemPlace} (h : DataW.trod enc Try.prog w base spare held n 132 cs = some y) : ∃ (x : Array Value) (t : Tc), cs = x.toList ∧ TabV w x t ∧ t.fit := by
  obtain ⟨xs, k, rfl, rfl, hl, hlen, hf⟩ := DataW.trod_struct Try.underlying132 h
  obtain ⟨z1, z2, z3⟩ := cellsT
  rw [z3] at hl
  have h0 : DataW.trod enc Try.prog w base spare held k 9 ((cs.drop 0).take (Try.prog.cellsOf 9)) = xs[0]? := hf 0 _ rfl
  have h1 : DataW.trod enc Try.prog w base spare held k 130 ((cs.drop 1).take (Try.prog.cellsOf 130)) = xs[1]? := hf 1 _ rfl
  have h2 : DataW.trod enc Try.prog w base spare held k 29 ((cs.drop 2).take (Try.prog.cellsOf 29)) = xs[2]? := hf 2 _ rfl
  match xs, hlen, cs, hl with
  | [x0, x1, x2], _, [a0, a1, a2], _ =>
    simp only [z1, z2, cells1.1] at h0 h1 h2
    obtain ⟨s, e0, _, hs⟩ := DataW.trod_string Try.underlying9 (h0.trans rfl)
    obtain ⟨cv, cs, e1, hc, hcf⟩ := open_cols (h1.trans rfl)
    obtain ⟨kv, ks, e2, hk, hkf⟩ := open_strs (h2.trans rfl)
    simp at e0 e1 e2
    exact ⟨#[.string s, cv, kv], ⟨s, cs, ks⟩, by rw [e0, e1, e2], ⟨cv, kv, rfl, hc, hk⟩, hs, hcf, hkf⟩
end
end Go.Proofs.Ytiijahoheajppab

namespace Go.Proofs.Ytiijahoheajppab
open Go.ChangeShapes Go.WideShapes Go.ChangeAt Go.RowKit
theorem cellsK : Try.prog.cellsOf 24 = 1 ∧ Try.prog.cellsOf 22 = 1 := ⟨by kernel_rfl, by kernel_rfl⟩
section
variable {H : Type} {enc : TypeId × Value → H} {w : World} {base : Nat} {spare : Nat → Bool} {held : Bool}
theorem TabV.size {x : Array Value} {t : Tc} (h : TabV w x t) : x.size = 3 := by obtain ⟨cv, kv, rfl, _⟩ := h; rfl
theorem open_tabs {n : Nat} {cs : List Value} {y : DataW H × List MemPlace} (h : DataW.trod enc Try.prog w base spare held n 22 cs = some y) : ∃ v ts, cs = [v] ∧ TabsV w v ts ∧ fits ts := by
  obtain ⟨a, L, cap, rfl, h1, h2, h3, h4⟩ := open_row (fun p : { q : Array Value × Tc // q.1.size = 3 } => p.1.1) (fun p => TabV w p.1.1 p.1.2 ∧ p.1.2.fit) (z := 3) (fun p => p.2) (by omega) Try.underlying22 cellsT.2.2 (fun n cs y h => by
    obtain ⟨x, t, rfl, hx, hf⟩ := open_tab h
    exact ⟨⟨(x, t), hx.size⟩, rfl, hx, hf⟩) h
  refine ⟨_, L.map (fun p => p.1.2), rfl, ⟨a, cap, L.map (fun p => p.1.1), by simp, by simpa using h1, h2, h3, by simp, fun i hi hg => ?_⟩, fun t ht => ?_⟩
  · simp only [List.getElem_map]
    exact (h4 _ (List.getElem_mem _)).1
  · obtain ⟨p, hp, rfl⟩ := List.mem_map.1 ht
    exact (h4 p hp).2
set_option maxRecDepth 100000 in
theorem open_cat {n : Nat} {cs : List Value} {y : DataW H × List MemPlace} (h : DataW.trod enc Try.prog w base spare held n 24 cs = some y) : ∃ v ts, cs = [v] ∧ TabsV w v ts ∧ fits ts := by
  obtain ⟨xs, k, rfl, rfl, hl, hlen, hf⟩ := DataW.trod_struct Try.underlying24 h
  obtain ⟨z1, z2⟩ := cellsK
  rw [z1] at hl
  have h0 : DataW.trod enc Try.prog w base spare held k 22 ((cs.drop 0).take (Try.prog.cellsOf 22)) = xs[0]? := hf 0 _ rfl
  match xs, hlen, cs, hl with
  | [x0], _, [a0], _ =>
    simp only [z2] at h0
    obtain ⟨v, ts, e, hv, hft⟩ := open_tabs (h0.trans rfl)
    simp at e
    exact ⟨v, ts, by rw [e], hv, hft⟩
end
end Go.Proofs.Ytiijahoheajppab

namespace Go.Proofs.Ytiijahoheajppab
open Go.ChangeShapes Go.WideShapes Go.ChangeAt Go.RowKit
theorem cellsDb : Try.prog.cellsOf 94 = 1 ∧ Try.prog.cellsOf 92 = 1 ∧ Try.prog.cellsOf 25 = 1 ∧ Try.prog.cellsOf 27 = 2 := ⟨by kernel_rfl, by kernel_rfl, by kernel_rfl, by kernel_rfl⟩
section
variable {H : Type} {enc : TypeId × Value → H} {w : World} {base : Nat} {spare : Nat → Bool} {held : Bool}
set_option maxRecDepth 100000 in
theorem open_rowsOne {n : Nat} {cs : List Value} {y : DataW H × List MemPlace} (h : DataW.trod enc Try.prog w base spare held n 94 cs = some y) : ∃ v rs, cs = [v] ∧ RowsV w v rs ∧ rfits rs := by
  obtain ⟨xs, k, rfl, rfl, hl, hlen, hf⟩ := DataW.trod_struct Try.underlying94 h
  obtain ⟨z1, z2, _⟩ := cellsDb
  rw [z1] at hl
  have h0 : DataW.trod enc Try.prog w base spare held k 92 ((cs.drop 0).take (Try.prog.cellsOf 92)) = xs[0]? := hf 0 _ rfl
  match xs, hlen, cs, hl with
  | [x0], _, [a0], _ =>
    simp only [z2] at h0
    obtain ⟨v, vs, e, hv, hft⟩ := open_rows (h0.trans rfl)
    simp at e
    exact ⟨v, vs, by rw [e], hv, hft⟩
theorem open_data {n : Nat} {cs : List Value} {y : DataW H × List MemPlace} (h : DataW.trod enc Try.prog w base spare held n 25 cs = some y) : ∃ v ds, cs = [v] ∧ DataV w v ds ∧ dfits ds := by
  obtain ⟨a, L, cap, rfl, h1, h2, h3, h4⟩ := open_row (fun p : Value × List (List Vc) => one1 p.1) (fun p => RowsV w p.1 p.2 ∧ rfits p.2) (z := 1) (fun p => rfl) (by omega) Try.underlying25 cellsDb.1 (fun n cs y h => by
    obtain ⟨v, vs, rfl, hv, hf⟩ := open_rowsOne h
    exact ⟨(v, vs), rfl, hv, hf⟩) h
  refine ⟨_, L.map (fun p => p.2), rfl, ⟨a, cap, L.map (fun p => p.1), by simp, by simpa using h1, h2, by rw [List.map_map]; exact h3, by simp, fun i hi hg => ?_⟩, fun t ht => ?_⟩
  · simp only [List.getElem_map]
    exact (h4 _ (List.getElem_mem _)).1
  · obtain ⟨p, hp, rfl⟩ := List.mem_map.1 ht
    exact (h4 p hp).2
set_option maxRecDepth 100000 in
theorem open_db {n : Nat} {cs : List Value} {y : DataW H × List MemPlace} (h : DataW.trod enc Try.prog w base spare held n 27 cs = some y) : ∃ cv dv ts ds, cs = [cv, dv] ∧ TabsV w cv ts ∧ DataV w dv ds ∧ fits ts ∧ dfits ds := by
  obtain ⟨xs, k, rfl, rfl, hl, hlen, hf⟩ := DataW.trod_struct Try.underlying27 h
  obtain ⟨_, _, z3, z4⟩ := cellsDb
  obtain ⟨y1, _⟩ := cellsK
  rw [z4] at hl
  have h0 : DataW.trod enc Try.prog w base spare held k 24 ((cs.drop 0).take (Try.prog.cellsOf 24)) = xs[0]? := hf 0 _ rfl
  have h1 : DataW.trod enc Try.prog w base spare held k 25 ((cs.drop 1).take (Try.prog.cellsOf 25)) = xs[1]? := hf 1 _ rfl
  match xs, hlen, cs, hl with
  | [x0, x1], _, [a0, a1], _ =>
    simp only [z3, y1] at h0 h1
    obtain ⟨v, ts, e, hv, hft⟩ := open_cat (h0.trans rfl)
    obtain ⟨u, ds, e', hu, hgt⟩ := open_data (h1.trans rfl)
    simp at e e'
    exact ⟨v, u, ts, ds, by rw [e, e'], hv, hu, hft, hgt⟩
end
end Go.Proofs.Ytiijahoheajppab
