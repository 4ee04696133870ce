/- The laws' copies of texts, values and one table, with their shape; a table marked. Arguments opened: columns, rows of elements. Tables among the arguments, opened. Values and rows among the arguments, opened. -/
import Derived.Test.YtiijahoheajppaaNw
import Derived.Test.YtiijahoheajppaaCp
import Derived.Test.YtiijahoheajppaaVs
import Derived.Test.YtiijahoheajppaaCl
import Derived.Test.YtiijahoheajppaaCh
import Derived.Carry
import Derived.Lib.SmallJoins
import Derived.Test.YtiijahoheajppaaTab
namespace Go.Proofs.Ytiijahoheajppaa
open Go.ChangeShapes Go.WideShapes Go.ChangeAt Go.RowKit

theorem toStringS_shp (kv : Value) (ks : List ByteArray) (w : World) (hc : StrsV w kv ks) (hn : ks.length ≤ 1048576) :
    Calls Try.prog 9 #[kv] w fun e w' => ∃ v, e = .returned v ∧ Below w.heap.size w w' ∧ StrsV w' v ks ∧ New StrsS w.heap.size w' v :=
  (toStringS_full kv ks w hc hn).mono fun e w' ⟨h1, h2, h3⟩ => ⟨_, h1, h2, h3.strsV (by unfold maxLen; omega), h3.strsN hn⟩
theorem toValS_shp (v : Value) (vs : List Vc) (w : World) (hv : ValsV w v vs) (hn : vs.length ≤ 1048576) :
    Calls Try.prog 16 #[v] w fun e w' => ∃ y, e = .returned y ∧ Below w.heap.size w w' ∧ ValsV w' y vs ∧ New ValsS w.heap.size w' y :=
  (toValS_any v vs w hv hn).mono fun e w' ⟨h1, h2, h3⟩ => ⟨_, h1, h2, h3.valsV (by unfold maxLen; omega), h3.valsN hn⟩
theorem toTable_shp (x : Array Value) (t : Tc) (w : World) (hx : TabV w x t) (hf : t.few) :
    Calls Try.prog 10 #[.agg x] w fun e w' => ∃ cv kv, e = .returned (.agg #[.string t.name, cv, kv]) ∧ Below w.heap.size w w' ∧ TabV w' #[.string t.name, cv, kv] t ∧ New ColsS w.heap.size w' cv ∧ New StrsS w.heap.size w' kv :=
  (toTable_full x t w hx hf).mono fun e w' ⟨B1, B2, h1, h2, h3, h4, h5, h6⟩ => ⟨_, _, h1, h4, ⟨_, _, rfl, h5.colsV (by have := hf.1; unfold maxLen; omega), h6.strsV (by have := hf.2; unfold maxLen; omega)⟩, New.mono ColsS.good (h5.colsN hf.1) h2, New.mono StrsS.good (h6.strsN hf.2) (by omega)⟩

set_option maxRecDepth 100000 in
set_option maxHeartbeats 1000000 in
/-- laws.markTable -/
theorem markTable_shape (S : Nat → Prop) (nm v d : Value) (k : Nat) (w : World) (hv : ColsS S w v) (hd : StrsS S w d) (hS : ∀ c, S c → c < w.heap.size) (hk : k ≤ 4000000000000000000) :
    Calls Try.prog 21 #[.agg #[nm, v, d], .int .i64 k] w fun e w' => ∃ k' : Nat, e = .returned (.int .i64 k') ∧ k' ≤ k + 100000000 ∧ Marks S w w' := by
  obtain ⟨b, n, cap, rfl, hn, hv⟩ := hv.lit
  obtain ⟨b', n', cap', rfl, hn', hd⟩ := hd.lit
  have HM0 : Hid (Marks S w (w.alloc (.cells #[nm, .slice (some ⟨b, 0, none⟩) n cap, .slice (some ⟨b', 0, none⟩) n' cap'] 32))) := (Marks.refl S w).below (ch_alloc (Below.refl _ _) _)
  have HV : Hid (ColsS S (w.alloc (.cells #[nm, .slice (some ⟨b, 0, none⟩) n cap, .slice (some ⟨b', 0, none⟩) n' cap'] 32)) (.slice (some ⟨b, 0, none⟩) n cap)) := ColsS.stays S _ _ _ _ HM0.out (kind1.refl _) hv
  have HD : Hid (StrsS S w (.slice (some ⟨b', 0, none⟩) n' cap')) := hd
  have HL := Loc.new w #[nm, .slice (some ⟨b, 0, none⟩) n cap, .slice (some ⟨b', 0, none⟩) n' cap'] 32
  have HS : Hid (∀ c, S c → c < w.heap.size) := hS
  clear hv hd hS
  go_enter Try.func21, Try.ntmps21
  go_wp2_with fail
  refine (markColS_shape S _ k _ HV.out (by omega)).mono ?_
  rintro e w1 ⟨K, rfl, hK, hM⟩
  have hns : ¬ S w.heap.size := fun h => by have := HS.out _ h; omega
  obtain ⟨l0, l1, l2⟩ := HL.three
  have c2 := hM.turns.cell (p := ⟨w.heap.size, 2, none⟩) hns l2
  have HM1 : Hid (Marks S w w1) := HM0.out.trans hM
  have HD1 : Hid (StrsS S w1 (.slice (some ⟨b', 0, none⟩) n' cap')) := StrsS.stays S _ _ _ _ HM1.out (kind1.refl _) HD.out
  clear hM l0 l1 l2
  go_wp2_with fail
  refine (markStringS_shape S _ K _ HD1.out (by omega)).mono ?_
  rintro e w2 ⟨K2, rfl, hK2, hM⟩
  have HM2 : Hid (Marks S w w2) := HM1.out.trans hM
  clear hM c2
  go_wp2
  go_ret
  exact ⟨K2, rfl, by omega, HM2.out⟩
end Go.Proofs.Ytiijahoheajppaa

namespace Go.Proofs.Ytiijahoheajppaa
open Go.ChangeShapes Go.WideShapes Go.ChangeAt Go.RowKit

theorem cells1 : Try.prog.cellsOf 9 = 1 ∧ Try.prog.cellsOf 3 = 1 ∧ Try.prog.cellsOf 4 = 1 ∧ Try.prog.cellsOf 71 = 3 ∧ Try.prog.cellsOf 86 = 7 := ⟨by kernel_rfl, by kernel_rfl, by kernel_rfl, by kernel_rfl, by kernel_rfl⟩

section
variable {H : Type} {enc : TypeId × Value → H} {w : World} {base : Nat} {spare : Nat → Bool} {held : Bool}
set_option maxRecDepth 100000 in
/-- A value, opened. -/
theorem open_val {n : Nat} {cs : List Value} {y : DataW H × List MemPlace} (h : DataW.trod enc Try.prog w base spare held n 71 cs = some y) : ∃ (t m : Int) (s : ByteArray), cs = [.int .i64 t, .int .i64 m, .string s] ∧ s.size ≤ maxLen := by
  obtain ⟨xs, k, rfl, rfl, hl, hlen, hf⟩ := DataW.trod_struct Try.underlying71 h
  obtain ⟨z1, z2, z3, z4, z5⟩ := cells1
  rw [z4] at hl
  have h0 : DataW.trod enc Try.prog w base spare held k 3 ((cs.drop 0).take (Try.prog.cellsOf 3)) = xs[0]? := hf 0 _ rfl
  have h1 : DataW.trod enc Try.prog w base spare held k 3 ((cs.drop 1).take (Try.prog.cellsOf 3)) = xs[1]? := hf 1 _ rfl
  have h2 : DataW.trod enc Try.prog w base spare held k 9 ((cs.drop 2).take (Try.prog.cellsOf 9)) = xs[2]? := hf 2 _ rfl
  match xs, hlen, cs, hl with
  | [x0, x1, x2], _, [a0, a1, a2], _ =>
    simp only [z1, z2] at h0 h1 h2
    obtain ⟨t, e0, _, _⟩ := DataW.trod_int Try.underlying3 (h0.trans rfl)
    obtain ⟨m, e1, _, _⟩ := DataW.trod_int Try.underlying3 (h1.trans rfl)
    obtain ⟨s, e2, _, hs⟩ := DataW.trod_string Try.underlying9 (h2.trans rfl)
    simp at e0 e1 e2
    exact ⟨t, m, s, by rw [e0, e1, e2], hs⟩
set_option maxRecDepth 100000 in
/-- A column, opened. -/
theorem open_col {n : Nat} {cs : List Value} {y : DataW H × List MemPlace} (h : DataW.trod enc Try.prog w base spare held n 86 cs = some y) : ∃ c : Cl, cs = c.cells.toList ∧ c.name.size ≤ maxLen ∧ c.ds.size ≤ maxLen := by
  obtain ⟨xs, k, rfl, rfl, hl, hlen, hf⟩ := DataW.trod_struct Try.underlying86 h
  obtain ⟨z1, z2, z3, z4, z5⟩ := cells1
  rw [z5] at hl
  have h0 : DataW.trod enc Try.prog w base spare held k 9 ((cs.drop 0).take (Try.prog.cellsOf 9)) = xs[0]? := hf 0 _ rfl
  have h1 : DataW.trod enc Try.prog w base spare held k 3 ((cs.drop 1).take (Try.prog.cellsOf 3)) = xs[1]? := hf 1 _ rfl
  have h2 : DataW.trod enc Try.prog w base spare held k 4 ((cs.drop 2).take (Try.prog.cellsOf 4)) = xs[2]? := hf 2 _ rfl
  have h3 : DataW.trod enc Try.prog w base spare held k 4 ((cs.drop 3).take (Try.prog.cellsOf 4)) = xs[3]? := hf 3 _ rfl
  have h4 : DataW.trod enc Try.prog w base spare held k 71 ((cs.drop 4).take (Try.prog.cellsOf 71)) = xs[4]? := hf 4 _ rfl
  match xs, hlen, cs, hl with
  | [x0, x1, x2, x3, x4], _, [a0, a1, a2, a3, a4, a5, a6], _ =>
    simp only [z1, z2, z3, z4] at h0 h1 h2 h3 h4
    obtain ⟨s, e0, _, hs⟩ := DataW.trod_string Try.underlying9 (h0.trans rfl)
    obtain ⟨t, e1, _, _⟩ := DataW.trod_int Try.underlying3 (h1.trans rfl)
    obtain ⟨b1, e2, _⟩ := DataW.trod_bool Try.underlying4 (h2.trans rfl)
    obtain ⟨b2, e3, _⟩ := DataW.trod_bool Try.underlying4 (h3.trans rfl)
    obtain ⟨dt, dn, ds, e4, hd⟩ := open_val (h4.trans rfl)
    simp at e0 e1 e2 e3 e4
    exact ⟨⟨s, t, b1, b2, dt, dn, ds⟩, by rw [e0, e1, e2, e3, e4.1, e4.2.1, e4.2.2], hs, hd⟩

theorem list_of {α : Type} {p : Nat → α → Prop} : ∀ (n : Nat), (∀ i, i < n → ∃ a, p i a) → ∃ L : List α, L.length = n ∧ ∀ i (h : i < L.length), p i L[i]
  | 0, _ => ⟨[], rfl, fun i h => by simp at h⟩
  | n + 1, h => by
    obtain ⟨L, hl, hp⟩ := list_of n fun i hi => h i (by omega)
    obtain ⟨a, ha⟩ := h n (by omega)
    refine ⟨L ++ [a], by simp [hl], fun i hi => ?_⟩
    by_cases hin : i < L.length
    · rw [List.getElem_append_left hin]; exact hp i hin
    · simp at hi
      have : i = n := by omega
      subst this
      rw [List.getElem_append_right (by omega)]
      simpa [hl] using ha

set_option maxRecDepth 100000 in
/-- A slice, opened. -/
theorem open_row {α : Type} {t e : TypeId} {z : Nat} (cells : α → Array Value) (ok : α → Prop) (hz : ∀ a, (cells a).size = z) (hz0 : 0 < z) (ht : Try.prog.underlying t = some (.slice e)) (hc : Try.prog.cellsOf e = z)
    (hel : ∀ n cs y, DataW.trod enc Try.prog w base spare held n e cs = some y → ∃ a, cs = (cells a).toList ∧ ok a) {n : Nat} {cs : List Value} {y : DataW H × List MemPlace} (h : DataW.trod enc Try.prog w base spare held n t cs = some y) :
    ∃ (a : Option Addr) (L : List α) (cap : Nat), cs = [.slice a L.length cap] ∧ L.length ≤ cap ∧ cap ≤ maxLen ∧ RowAt w a z (L.map cells) ∧ ∀ x ∈ L, ok x := by
  rcases DataW.trod_slice ht h with ⟨rfl, rfl⟩ | ⟨a, len, cap, elems, rest, k, _, rfl, _, _, hlc, hcm, hlen, hx, _, _⟩
  · exact ⟨.none, [], 0, rfl, Nat.le_refl _, Nat.zero_le _, RowAt.nil _ _ _, fun x hx => by simp at hx⟩
  · rw [hc] at hx
    have hx' : ∀ i, i < len → ∃ x : α, ok x ∧ ∀ j, j < z → w.cell? ((a.add (i * z)).add j) = (cells x)[j]? := fun i hi => by
      have := hx i hi
      rw [List.getElem?_eq_getElem (by omega)] at this
      obtain ⟨cs', h1, h2⟩ := Option.bind_eq_some_iff.1 this
      obtain ⟨x, rfl, hk⟩ := hel _ _ _ h2
      obtain ⟨_, _, h3⟩ := World.cells?_some h1
      exact ⟨x, hk, fun j hj => by rw [h3 j hj]; simp⟩
    obtain ⟨L, hL, hp⟩ := list_of len hx'
    subst hL
    refine ⟨some a, L, cap, rfl, hlc, hcm, ⟨fun x hx => ?_, ?_⟩, fun x hx => ?_⟩
    · obtain ⟨y, _, rfl⟩ := List.mem_map.1 hx; exact hz y
    · by_cases h0 : L.length = 0
      · left; simp [List.length_eq_zero_iff.1 h0]
      · right
        obtain ⟨b, off, sp⟩ := a
        have hsp : sp = .none := by
          have h1 := (hp 0 (by omega)).2 0 hz0
          rw [Array.getElem?_eq_getElem (by rw [hz]; exact hz0)] at h1
          unfold World.cell? at h1
          simp [Addr.add] at h1
          split at h1
          · simp at h1; exact h1.1
          · cases h1
        subst hsp
        refine ⟨b, off, rfl, fun i hi j hj => ?_⟩
        simp only [List.length_map] at hi
        rw [List.getElem_map, ← (hp i hi).2 j hj, add_add]
    · obtain ⟨i, hi, rfl⟩ := List.getElem_of_mem hx; exact (hp i hi).1
end
end Go.Proofs.Ytiijahoheajppaa

namespace Go.Proofs.Ytiijahoheajppaa
open Go.ChangeShapes Go.WideShapes Go.ChangeAt Go.RowKit
theorem cellsT2 : Try.prog.cellsOf 23 = 1 ∧ Try.prog.cellsOf 22 = 1 := ⟨by kernel_rfl, by kernel_rfl⟩
theorem cellsT : Try.prog.cellsOf 23 = 1 ∧ Try.prog.cellsOf 22 = 1 ∧ Try.prog.cellsOf 25 = 3 := ⟨by kernel_rfl, by kernel_rfl, by kernel_rfl⟩
section
variable {H : Type} {enc : TypeId × Value → H} {w : World} {base : Nat} {spare : Nat → Bool} {held : Bool}
theorem open_cols {n : Nat} {cs : List Value} {y : DataW H × List MemPlace} (h : DataW.trod enc Try.prog w base spare held n 23 cs = some y) : ∃ v L, cs = [v] ∧ ColsV w v L ∧ ∀ c ∈ L, c.name.size ≤ maxLen ∧ c.ds.size ≤ maxLen := by
  obtain ⟨a, L, cap, rfl, h1, h2, h3, h4⟩ := open_row Cl.cells (fun c : Cl => c.name.size ≤ maxLen ∧ c.ds.size ≤ maxLen) (z := 7) (fun _ => rfl) (by omega) Try.underlying23 cells1.2.2.2.2 (fun n cs y h => open_col h) h
  exact ⟨_, L, rfl, ⟨a, cap, rfl, h1, h2, h3⟩, h4⟩
theorem open_strs {n : Nat} {cs : List Value} {y : DataW H × List MemPlace} (h : DataW.trod enc Try.prog w base spare held n 22 cs = some y) : ∃ v L, cs = [v] ∧ StrsV w v L ∧ ∀ s ∈ L, s.size ≤ maxLen := by
  obtain ⟨a, L, cap, rfl, h1, h2, h3, h4⟩ := open_row strX (fun s : ByteArray => s.size ≤ maxLen) (z := 1) (fun _ => rfl) (by omega) Try.underlying22 cells1.1 (fun n cs y h => by
    obtain ⟨s, rfl, _, hs⟩ := DataW.trod_string Try.underlying9 h; exact ⟨s, rfl, hs⟩) h
  exact ⟨_, L, rfl, ⟨a, cap, rfl, h1, h2, h3⟩, h4⟩
set_option maxRecDepth 100000 in
theorem open_tab {n : Nat} {cs : List Value} {y : DataW H × List MemPlace} (h : DataW.trod enc Try.prog w base spare held n 25 cs = some y) : ∃ (x : Array Value) (t : Tc), cs = x.toList ∧ TabV w x t ∧ t.fit := by
  obtain ⟨xs, k, rfl, rfl, hl, hlen, hf⟩ := DataW.trod_struct Try.underlying25 h
  obtain ⟨z1, z2, z3⟩ := cellsT
  rw [z3] at hl
  have h0 : DataW.trod enc Try.prog w base spare held k 9 ((cs.drop 0).take (Try.prog.cellsOf 9)) = xs[0]? := hf 0 _ rfl
  have h1 : DataW.trod enc Try.prog w base spare held k 23 ((cs.drop 1).take (Try.prog.cellsOf 23)) = xs[1]? := hf 1 _ rfl
  have h2 : DataW.trod enc Try.prog w base spare held k 22 ((cs.drop 2).take (Try.prog.cellsOf 22)) = xs[2]? := hf 2 _ rfl
  match xs, hlen, cs, hl with
  | [x0, x1, x2], _, [a0, a1, a2], _ =>
    simp only [z1, z2, cells1.1] at h0 h1 h2
    obtain ⟨s, e0, _, hs⟩ := DataW.trod_string Try.underlying9 (h0.trans rfl)
    obtain ⟨cv, cs, e1, hc, hcf⟩ := open_cols (h1.trans rfl)
    obtain ⟨kv, ks, e2, hk, hkf⟩ := open_strs (h2.trans rfl)
    simp at e0 e1 e2
    exact ⟨#[.string s, cv, kv], ⟨s, cs, ks⟩, by rw [e0, e1, e2], ⟨cv, kv, rfl, hc, hk⟩, hs, hcf, hkf⟩
end
end Go.Proofs.Ytiijahoheajppaa

namespace Go.Proofs.Ytiijahoheajppaa
open Go.ChangeShapes Go.WideShapes Go.ChangeAt Go.RowKit
section
variable {H : Type} {enc : TypeId × Value → H} {w : World} {base : Nat} {spare : Nat → Bool} {held : Bool}
theorem open_vals {n : Nat} {cs : List Value} {y : DataW H × List MemPlace} (h : DataW.trod enc Try.prog w base spare held n 37 cs = some y) : ∃ v L, cs = [v] ∧ ValsV w v L ∧ vfit L := by
  obtain ⟨a, L, cap, rfl, h1, h2, h3, h4⟩ := open_row Vc.cells (fun c : Vc => c.s.size ≤ maxLen) (z := 3) (fun _ => rfl) (by omega) Try.underlying37 cells1.2.2.2.1 (fun n cs y h => by
    obtain ⟨t, m, s, rfl, hs⟩ := open_val h; exact ⟨⟨t, m, s⟩, rfl, hs⟩) h
  exact ⟨_, L, rfl, ⟨a, cap, rfl, h1, h2, h3⟩, h4⟩
end
end Go.Proofs.Ytiijahoheajppaa
