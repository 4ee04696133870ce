/- A statement marked: its shape stays. Arguments opened: columns, rows of elements. Values and rows among the arguments, opened. A row among the arguments, opened. Tables among the arguments, opened. Changes among the arguments, opened. Statements among the arguments, opened. -/
import Derived.Test.YtikccmgpmbnkfaaNw
import Derived.Test.YtikccmgpmbnkfaaXs
import Derived.Test.YtikccmgpmbnkfaaCl
import Derived.Test.YtikccmgpmbnkfaaCh
import Derived.Carry
import Derived.Lib.SmallJoins
import Derived.Test.YtikccmgpmbnkfaaVs
import Derived.Test.YtikccmgpmbnkfaaTab
import Derived.Test.YtikccmgpmbnkfaaDd
import Derived.Test.YtikccmgpmbnkfaaSt
namespace Go.Proofs.Ytikccmgpmbnkfaa
open Go.ChangeShapes Go.WideShapes Go.ChangeAt Go.RowKit

set_option maxRecDepth 100000 in
/-- laws.markRow -/
theorem markRow_shape (S : Nat → Prop) (v : Value) (k : Nat) (w : World) (hv : ValsS S w v) (hk : k ≤ 8000000000000000000) :
    Calls Try.prog 56 #[.agg #[v], .int .i64 k] w fun e w' => ∃ k' : Nat, e = .returned (.int .i64 k') ∧ k' ≤ k + 3145728 ∧ Marks S w w' := by
  obtain ⟨b, n, cap, rfl, hn, hv⟩ := hv.lit
  have HM0 : Hid (Marks S w (w.alloc (.cells #[.slice (some ⟨b, 0, none⟩) n cap] 57))) := (Marks.refl S w).below (ch_alloc (Below.refl _ _) _)
  have HV : Hid (ValsS S (w.alloc (.cells #[.slice (some ⟨b, 0, none⟩) n cap] 57)) (.slice (some ⟨b, 0, none⟩) n cap)) := ValsS.stays S _ _ _ _ HM0.out (kind1.refl _) hv
  clear hv
  go_enter Try.func56, Try.ntmps56
  go_wp2_with fail
  refine (markValS_shape S _ k _ HV.out hk).mono ?_
  rintro e w1 ⟨K, rfl, hK, hM⟩
  have HM1 : Hid (Marks S w w1) := HM0.out.trans hM
  clear hM
  go_wp2
  go_ret
  exact ⟨K, rfl, hK, HM1.out⟩

set_option maxRecDepth 100000 in
set_option maxHeartbeats 1000000 in
/-- laws.markDdl -/
theorem markDdl_shape (S : Nat → Prop) (dk dtb v d dnm dto : Value) (k : Nat) (w : World) (hv : ColsS S w v) (hd : StrsS S w d) (hS : ∀ c, S c → c < w.heap.size) (hk : k ≤ 4000000000000000000) :
    Calls Try.prog 57 #[.agg #[dk, dtb, v, d, dnm, dto], .int .i64 k] w fun e w' => ∃ k' : Nat, e = .returned (.int .i64 k') ∧ k' ≤ k + 100000000 ∧ Marks S w w' := by
  obtain ⟨b, n, cap, rfl, hn, hv⟩ := hv.lit
  obtain ⟨b', n', cap', rfl, hn', hd⟩ := hd.lit
  have HM0 : Hid (Marks S w (w.alloc (.cells #[dk, dtb, .slice (some ⟨b, 0, none⟩) n cap, .slice (some ⟨b', 0, none⟩) n' cap', dnm, dto] 60))) := (Marks.refl S w).below (ch_alloc (Below.refl _ _) _)
  have HV : Hid (ColsS S (w.alloc (.cells #[dk, dtb, .slice (some ⟨b, 0, none⟩) n cap, .slice (some ⟨b', 0, none⟩) n' cap', dnm, dto] 60)) (.slice (some ⟨b, 0, none⟩) n cap)) := ColsS.stays S _ _ _ _ HM0.out (kind1.refl _) hv
  have HD : Hid (StrsS S w (.slice (some ⟨b', 0, none⟩) n' cap')) := hd
  have HL := Loc.new w #[dk, dtb, .slice (some ⟨b, 0, none⟩) n cap, .slice (some ⟨b', 0, none⟩) n' cap', dnm, dto] 60
  have HS : Hid (∀ c, S c → c < w.heap.size) := hS
  clear hv hd hS
  go_enter Try.func57, Try.ntmps57
  go_wp2_with fail
  refine (markColS_shape S _ k _ HV.out (by omega)).mono ?_
  rintro e w1 ⟨K, rfl, hK, hM⟩
  have hns : ¬ S w.heap.size := fun h => by have := HS.out _ h; omega
  obtain ⟨l0, l1, l2, l3, l4, l5⟩ := HL.six
  have c3 := hM.turns.cell (p := ⟨w.heap.size, 3, none⟩) hns l3
  have HM1 : Hid (Marks S w w1) := HM0.out.trans hM
  have HD1 : Hid (StrsS S w1 (.slice (some ⟨b', 0, none⟩) n' cap')) := StrsS.stays S _ _ _ _ HM1.out (kind1.refl _) HD.out
  clear hM l0 l1 l2 l3 l4 l5
  go_wp2_with fail
  refine (markStringS_shape S _ K _ HD1.out (by omega)).mono ?_
  rintro e w2 ⟨K2, rfl, hK2, hM⟩
  have HM2 : Hid (Marks S w w2) := HM1.out.trans hM
  clear hM c3
  go_wp2
  go_ret
  exact ⟨K2, rfl, by omega, HM2.out⟩

set_option maxRecDepth 100000 in
set_option maxHeartbeats 1000000 in
/-- laws.markStmt -/
theorem markStmt_shape (S : Nat → Prop) (sk stb v1 v2 dk dtb v3 v4 dnm dto : Value) (k : Nat) (w : World) (h1 : ValsS S w v1) (h2 : ValsS S w v2) (h3 : ColsS S w v3) (h4 : StrsS S w v4) (hS : ∀ c, S c → c < w.heap.size) (hk : k ≤ 3000000000000000000) :
    Calls Try.prog 24 #[.agg #[sk, stb, v1, v2, dk, dtb, v3, v4, dnm, dto], .int .i64 k] w fun e w' => ∃ k' : Nat, e = .returned (.int .i64 k') ∧ k' ≤ k + 200000000 ∧ Marks S w w' := by
  obtain ⟨b1, n1, q1, rfl, hn1, h1⟩ := h1.lit
  obtain ⟨b2, n2, q2, rfl, hn2, h2⟩ := h2.lit
  obtain ⟨b3, n3, q3, rfl, hn3, h3⟩ := h3.lit
  obtain ⟨b4, n4, q4, rfl, hn4, h4⟩ := h4.lit
  have HM0 : Hid (Marks S w (w.alloc (.cells #[sk, stb, .slice (some ⟨b1, 0, none⟩) n1 q1, .slice (some ⟨b2, 0, none⟩) n2 q2, dk, dtb, .slice (some ⟨b3, 0, none⟩) n3 q3, .slice (some ⟨b4, 0, none⟩) n4 q4, dnm, dto] 62))) := (Marks.refl S w).below (ch_alloc (Below.refl _ _) _)
  have H1 : Hid (ValsS S (w.alloc (.cells #[sk, stb, .slice (some ⟨b1, 0, none⟩) n1 q1, .slice (some ⟨b2, 0, none⟩) n2 q2, dk, dtb, .slice (some ⟨b3, 0, none⟩) n3 q3, .slice (some ⟨b4, 0, none⟩) n4 q4, dnm, dto] 62)) (.slice (some ⟨b1, 0, none⟩) n1 q1)) := ValsS.stays S _ _ _ _ HM0.out (kind1.refl _) h1
  have H2 : Hid (ValsS S w (.slice (some ⟨b2, 0, none⟩) n2 q2)) := h2
  have H3 : Hid (ColsS S w (.slice (some ⟨b3, 0, none⟩) n3 q3)) := h3
  have H4 : Hid (StrsS S w (.slice (some ⟨b4, 0, none⟩) n4 q4)) := h4
  have HL := Loc.new w #[sk, stb, .slice (some ⟨b1, 0, none⟩) n1 q1, .slice (some ⟨b2, 0, none⟩) n2 q2, dk, dtb, .slice (some ⟨b3, 0, none⟩) n3 q3, .slice (some ⟨b4, 0, none⟩) n4 q4, dnm, dto] 62
  have HS : Hid (∀ c, S c → c < w.heap.size) := hS
  clear h1 h2 h3 h4 hS
  go_enter Try.func24, Try.ntmps24
  go_wp2_with fail
  refine (markValS_shape S _ k _ H1.out (by omega)).mono ?_
  rintro e w1 ⟨K, rfl, hK, hM⟩
  have hns : ¬ S w.heap.size := fun h => by have := HS.out _ h; omega
  obtain ⟨l0, l1, l2, l3, l4, l5, l6, l7, l8, l9⟩ := HL.ten
  have c3 := hM.turns.cell (p := ⟨w.heap.size, 3, none⟩) hns l3
  have c4 := hM.turns.cell (p := ⟨w.heap.size, 4, none⟩) hns l4
  have c5 := hM.turns.cell (p := ⟨w.heap.size, 5, none⟩) hns l5
  have c6 := hM.turns.cell (p := ⟨w.heap.size, 6, none⟩) hns l6
  have c7 := hM.turns.cell (p := ⟨w.heap.size, 7, none⟩) hns l7
  have c8 := hM.turns.cell (p := ⟨w.heap.size, 8, none⟩) hns l8
  have c9 := hM.turns.cell (p := ⟨w.heap.size, 9, none⟩) hns l9
  have HM1 : Hid (Marks S w w1) := HM0.out.trans hM
  have H21 : Hid (ValsS S w1 (.slice (some ⟨b2, 0, none⟩) n2 q2)) := ValsS.stays S _ _ _ _ HM1.out (kind1.refl _) H2.out
  clear hM l0 l1 l2 l3 l4 l5 l6 l7 l8 l9
  go_wp2_with fail
  refine (markRow_shape S _ K _ H21.out (by omega)).mono ?_
  rintro e w2 ⟨K2, rfl, hK2, hM⟩
  have e4 := hM.turns.cell (p := ⟨w.heap.size, 4, none⟩) hns c4
  have e5 := hM.turns.cell (p := ⟨w.heap.size, 5, none⟩) hns c5
  have e6 := hM.turns.cell (p := ⟨w.heap.size, 6, none⟩) hns c6
  have e7 := hM.turns.cell (p := ⟨w.heap.size, 7, none⟩) hns c7
  have e8 := hM.turns.cell (p := ⟨w.heap.size, 8, none⟩) hns c8
  have e9 := hM.turns.cell (p := ⟨w.heap.size, 9, none⟩) hns c9
  have HM2 : Hid (Marks S w w2) := HM1.out.trans hM
  have H32 : Hid (ColsS S w2 (.slice (some ⟨b3, 0, none⟩) n3 q3)) := ColsS.stays S _ _ _ _ HM2.out (kind1.refl _) H3.out
  have H42 : Hid (StrsS S w2 (.slice (some ⟨b4, 0, none⟩) n4 q4)) := StrsS.stays S _ _ _ _ HM2.out (kind1.refl _) H4.out
  clear hM c3 c4 c5 c6 c7 c8 c9
  go_wp2_with fail
  refine (markDdl_shape S _ _ _ _ _ _ K2 _ H32.out H42.out (fun c h => Nat.lt_of_lt_of_le (HS.out c h) HM2.out.turns.size) (by omega)).mono ?_
  rintro e w3 ⟨K3, rfl, hK3, hM⟩
  have HM3 : Hid (Marks S w w3) := HM2.out.trans hM
  clear hM e4 e5 e6 e7 e8 e9
  go_wp2
  go_ret
  exact ⟨K3, rfl, by omega, HM3.out⟩
end Go.Proofs.Ytikccmgpmbnkfaa

namespace Go.Proofs.Ytikccmgpmbnkfaa
open Go.ChangeShapes Go.WideShapes Go.ChangeAt Go.RowKit

theorem cells1 : Try.prog.cellsOf 9 = 1 ∧ Try.prog.cellsOf 3 = 1 ∧ Try.prog.cellsOf 4 = 1 ∧ Try.prog.cellsOf 114 = 3 ∧ Try.prog.cellsOf 145 = 7 := ⟨by kernel_rfl, by kernel_rfl, by kernel_rfl, by kernel_rfl, by kernel_rfl⟩

section
variable {H : Type} {enc : TypeId × Value → H} {w : World} {base : Nat} {spare : Nat → Bool} {held : Bool}
set_option maxRecDepth 100000 in
/-- A value, opened. -/
theorem open_val {n : Nat} {cs : List Value} {y : DataW H × List MemPlace} (h : DataW.trod enc Try.prog w base spare held n 114 cs = some y) : ∃ (t m : Int) (s : ByteArray), cs = [.int .i64 t, .int .i64 m, .string s] ∧ s.size ≤ maxLen := by
  obtain ⟨xs, k, rfl, rfl, hl, hlen, hf⟩ := DataW.trod_struct Try.underlying114 h
  obtain ⟨z1, z2, z3, z4, z5⟩ := cells1
  rw [z4] at hl
  have h0 : DataW.trod enc Try.prog w base spare held k 3 ((cs.drop 0).take (Try.prog.cellsOf 3)) = xs[0]? := hf 0 _ rfl
  have h1 : DataW.trod enc Try.prog w base spare held k 3 ((cs.drop 1).take (Try.prog.cellsOf 3)) = xs[1]? := hf 1 _ rfl
  have h2 : DataW.trod enc Try.prog w base spare held k 9 ((cs.drop 2).take (Try.prog.cellsOf 9)) = xs[2]? := hf 2 _ rfl
  match xs, hlen, cs, hl with
  | [x0, x1, x2], _, [a0, a1, a2], _ =>
    simp only [z1, z2] at h0 h1 h2
    obtain ⟨t, e0, _, _⟩ := DataW.trod_int Try.underlying3 (h0.trans rfl)
    obtain ⟨m, e1, _, _⟩ := DataW.trod_int Try.underlying3 (h1.trans rfl)
    obtain ⟨s, e2, _, hs⟩ := DataW.trod_string Try.underlying9 (h2.trans rfl)
    simp at e0 e1 e2
    exact ⟨t, m, s, by rw [e0, e1, e2], hs⟩
set_option maxRecDepth 100000 in
/-- A column, opened. -/
theorem open_col {n : Nat} {cs : List Value} {y : DataW H × List MemPlace} (h : DataW.trod enc Try.prog w base spare held n 145 cs = some y) : ∃ c : Cl, cs = c.cells.toList ∧ c.name.size ≤ maxLen ∧ c.ds.size ≤ maxLen := by
  obtain ⟨xs, k, rfl, rfl, hl, hlen, hf⟩ := DataW.trod_struct Try.underlying145 h
  obtain ⟨z1, z2, z3, z4, z5⟩ := cells1
  rw [z5] at hl
  have h0 : DataW.trod enc Try.prog w base spare held k 9 ((cs.drop 0).take (Try.prog.cellsOf 9)) = xs[0]? := hf 0 _ rfl
  have h1 : DataW.trod enc Try.prog w base spare held k 3 ((cs.drop 1).take (Try.prog.cellsOf 3)) = xs[1]? := hf 1 _ rfl
  have h2 : DataW.trod enc Try.prog w base spare held k 4 ((cs.drop 2).take (Try.prog.cellsOf 4)) = xs[2]? := hf 2 _ rfl
  have h3 : DataW.trod enc Try.prog w base spare held k 4 ((cs.drop 3).take (Try.prog.cellsOf 4)) = xs[3]? := hf 3 _ rfl
  have h4 : DataW.trod enc Try.prog w base spare held k 114 ((cs.drop 4).take (Try.prog.cellsOf 114)) = xs[4]? := hf 4 _ rfl
  match xs, hlen, cs, hl with
  | [x0, x1, x2, x3, x4], _, [a0, a1, a2, a3, a4, a5, a6], _ =>
    simp only [z1, z2, z3, z4] at h0 h1 h2 h3 h4
    obtain ⟨s, e0, _, hs⟩ := DataW.trod_string Try.underlying9 (h0.trans rfl)
    obtain ⟨t, e1, _, _⟩ := DataW.trod_int Try.underlying3 (h1.trans rfl)
    obtain ⟨b1, e2, _⟩ := DataW.trod_bool Try.underlying4 (h2.trans rfl)
    obtain ⟨b2, e3, _⟩ := DataW.trod_bool Try.underlying4 (h3.trans rfl)
    obtain ⟨dt, dn, ds, e4, hd⟩ := open_val (h4.trans rfl)
    simp at e0 e1 e2 e3 e4
    exact ⟨⟨s, t, b1, b2, dt, dn, ds⟩, by rw [e0, e1, e2, e3, e4.1, e4.2.1, e4.2.2], hs, hd⟩

theorem list_of {α : Type} {p : Nat → α → Prop} : ∀ (n : Nat), (∀ i, i < n → ∃ a, p i a) → ∃ L : List α, L.length = n ∧ ∀ i (h : i < L.length), p i L[i]
  | 0, _ => ⟨[], rfl, fun i h => by simp at h⟩
  | n + 1, h => by
    obtain ⟨L, hl, hp⟩ := list_of n fun i hi => h i (by omega)
    obtain ⟨a, ha⟩ := h n (by omega)
    refine ⟨L ++ [a], by simp [hl], fun i hi => ?_⟩
    by_cases hin : i < L.length
    · rw [List.getElem_append_left hin]; exact hp i hin
    · simp at hi
      have : i = n := by omega
      subst this
      rw [List.getElem_append_right (by omega)]
      simpa [hl] using ha

set_option maxRecDepth 100000 in
/-- A slice, opened. -/
theorem open_row {α : Type} {t e : TypeId} {z : Nat} (cells : α → Array Value) (ok : α → Prop) (hz : ∀ a, (cells a).size = z) (hz0 : 0 < z) (ht : Try.prog.underlying t = some (.slice e)) (hc : Try.prog.cellsOf e = z)
    (hel : ∀ n cs y, DataW.trod enc Try.prog w base spare held n e cs = some y → ∃ a, cs = (cells a).toList ∧ ok a) {n : Nat} {cs : List Value} {y : DataW H × List MemPlace} (h : DataW.trod enc Try.prog w base spare held n t cs = some y) :
    ∃ (a : Option Addr) (L : List α) (cap : Nat), cs = [.slice a L.length cap] ∧ L.length ≤ cap ∧ cap ≤ maxLen ∧ RowAt w a z (L.map cells) ∧ ∀ x ∈ L, ok x := by
  rcases DataW.trod_slice ht h with ⟨rfl, rfl⟩ | ⟨a, len, cap, elems, rest, k, _, rfl, _, _, hlc, hcm, hlen, hx, _, _⟩
  · exact ⟨.none, [], 0, rfl, Nat.le_refl _, Nat.zero_le _, RowAt.nil _ _ _, fun x hx => by simp at hx⟩
  · rw [hc] at hx
    have hx' : ∀ i, i < len → ∃ x : α, ok x ∧ ∀ j, j < z → w.cell? ((a.add (i * z)).add j) = (cells x)[j]? := fun i hi => by
      have := hx i hi
      rw [List.getElem?_eq_getElem (by omega)] at this
      obtain ⟨cs', h1, h2⟩ := Option.bind_eq_some_iff.1 this
      obtain ⟨x, rfl, hk⟩ := hel _ _ _ h2
      obtain ⟨_, _, h3⟩ := World.cells?_some h1
      exact ⟨x, hk, fun j hj => by rw [h3 j hj]; simp⟩
    obtain ⟨L, hL, hp⟩ := list_of len hx'
    subst hL
    refine ⟨some a, L, cap, rfl, hlc, hcm, ⟨fun x hx => ?_, ?_⟩, fun x hx => ?_⟩
    · obtain ⟨y, _, rfl⟩ := List.mem_map.1 hx; exact hz y
    · by_cases h0 : L.length = 0
      · left; simp [List.length_eq_zero_iff.1 h0]
      · right
        obtain ⟨b, off, sp⟩ := a
        have hsp : sp = .none := by
          have h1 := (hp 0 (by omega)).2 0 hz0
          rw [Array.getElem?_eq_getElem (by rw [hz]; exact hz0)] at h1
          unfold World.cell? at h1
          simp [Addr.add] at h1
          split at h1
          · simp at h1; exact h1.1
          · cases h1
        subst hsp
        refine ⟨b, off, rfl, fun i hi j hj => ?_⟩
        simp only [List.length_map] at hi
        rw [List.getElem_map, ← (hp i hi).2 j hj, add_add]
    · obtain ⟨i, hi, rfl⟩ := List.getElem_of_mem hx; exact (hp i hi).1
end
end Go.Proofs.Ytikccmgpmbnkfaa

namespace Go.Proofs.Ytikccmgpmbnkfaa
open Go.ChangeShapes Go.WideShapes Go.ChangeAt Go.RowKit
section
variable {H : Type} {enc : TypeId × Value → H} {w : World} {base : Nat} {spare : Nat → Bool} {held : Bool}
theorem open_vals {n : Nat} {cs : List Value} {y : DataW H × List MemPlace} (h : DataW.trod enc Try.prog w base spare held n 43 cs = some y) : ∃ v L, cs = [v] ∧ ValsV w v L ∧ vfit L := by
  obtain ⟨a, L, cap, rfl, h1, h2, h3, h4⟩ := open_row Vc.cells (fun c : Vc => c.s.size ≤ maxLen) (z := 3) (fun _ => rfl) (by omega) Try.underlying43 cells1.2.2.2.1 (fun n cs y h => by
    obtain ⟨t, m, s, rfl, hs⟩ := open_val h; exact ⟨⟨t, m, s⟩, rfl, hs⟩) h
  exact ⟨_, L, rfl, ⟨a, cap, rfl, h1, h2, h3⟩, h4⟩
end
end Go.Proofs.Ytikccmgpmbnkfaa

namespace Go.Proofs.Ytikccmgpmbnkfaa
open Go.ChangeShapes Go.WideShapes Go.ChangeAt Go.RowKit
theorem cellsR : Try.prog.cellsOf 45 = 1 ∧ Try.prog.cellsOf 43 = 1 := ⟨by kernel_rfl, by kernel_rfl⟩
section
variable {H : Type} {enc : TypeId × Value → H} {w : World} {base : Nat} {spare : Nat → Bool} {held : Bool}
set_option maxRecDepth 100000 in
theorem open_rw {n : Nat} {cs : List Value} {y : DataW H × List MemPlace} (h : DataW.trod enc Try.prog w base spare held n 45 cs = some y) : ∃ v vs, cs = [v] ∧ ValsV w v vs ∧ vfit vs := by
  obtain ⟨xs, k, rfl, rfl, hl, hlen, hf⟩ := DataW.trod_struct Try.underlying45 h
  obtain ⟨z1, z2⟩ := cellsR
  rw [z1] at hl
  have h0 : DataW.trod enc Try.prog w base spare held k 43 ((cs.drop 0).take (Try.prog.cellsOf 43)) = xs[0]? := hf 0 _ rfl
  match xs, hlen, cs, hl with
  | [x0], _, [a0], _ =>
    simp only [z2] at h0
    obtain ⟨v, vs, e, hv, hft⟩ := open_vals (h0.trans rfl)
    simp at e
    exact ⟨v, vs, by rw [e], hv, hft⟩
end
end Go.Proofs.Ytikccmgpmbnkfaa

namespace Go.Proofs.Ytikccmgpmbnkfaa
open Go.ChangeShapes Go.WideShapes Go.ChangeAt Go.RowKit
theorem cellsT2 : Try.prog.cellsOf 46 = 1 ∧ Try.prog.cellsOf 47 = 1 := ⟨by kernel_rfl, by kernel_rfl⟩
section
variable {H : Type} {enc : TypeId × Value → H} {w : World} {base : Nat} {spare : Nat → Bool} {held : Bool}
theorem open_cols {n : Nat} {cs : List Value} {y : DataW H × List MemPlace} (h : DataW.trod enc Try.prog w base spare held n 46 cs = some y) : ∃ v L, cs = [v] ∧ ColsV w v L ∧ ∀ c ∈ L, c.name.size ≤ maxLen ∧ c.ds.size ≤ maxLen := by
  obtain ⟨a, L, cap, rfl, h1, h2, h3, h4⟩ := open_row Cl.cells (fun c : Cl => c.name.size ≤ maxLen ∧ c.ds.size ≤ maxLen) (z := 7) (fun _ => rfl) (by omega) Try.underlying46 cells1.2.2.2.2 (fun n cs y h => open_col h) h
  exact ⟨_, L, rfl, ⟨a, cap, rfl, h1, h2, h3⟩, h4⟩
theorem open_strs {n : Nat} {cs : List Value} {y : DataW H × List MemPlace} (h : DataW.trod enc Try.prog w base spare held n 47 cs = some y) : ∃ v L, cs = [v] ∧ StrsV w v L ∧ ∀ s ∈ L, s.size ≤ maxLen := by
  obtain ⟨a, L, cap, rfl, h1, h2, h3, h4⟩ := open_row strX (fun s : ByteArray => s.size ≤ maxLen) (z := 1) (fun _ => rfl) (by omega) Try.underlying47 cells1.1 (fun n cs y h => by
    obtain ⟨s, rfl, _, hs⟩ := DataW.trod_string Try.underlying9 h; exact ⟨s, rfl, hs⟩) h
  exact ⟨_, L, rfl, ⟨a, cap, rfl, h1, h2, h3⟩, h4⟩
end
end Go.Proofs.Ytikccmgpmbnkfaa

namespace Go.Proofs.Ytikccmgpmbnkfaa
open Go.ChangeShapes Go.WideShapes Go.ChangeAt Go.RowKit
theorem cellsD : Try.prog.cellsOf 49 = 6 := by kernel_rfl
section
variable {H : Type} {enc : TypeId × Value → H} {w : World} {base : Nat} {spare : Nat → Bool} {held : Bool}
set_option maxRecDepth 100000 in
theorem open_ddl {n : Nat} {cs : List Value} {y : DataW H × List MemPlace} (h : DataW.trod enc Try.prog w base spare held n 49 cs = some y) : ∃ (x : Array Value) (t : Dc), cs = x.toList ∧ DdlV w x t ∧ t.fit := by
  obtain ⟨xs, k, rfl, rfl, hl, hlen, hf⟩ := DataW.trod_struct Try.underlying49 h
  obtain ⟨z1, z2⟩ := cellsT2
  obtain ⟨y1, y2, _⟩ := cells1
  rw [cellsD] at hl
  have h0 : DataW.trod enc Try.prog w base spare held k 3 ((cs.drop 0).take (Try.prog.cellsOf 3)) = xs[0]? := hf 0 _ rfl
  have h1 : DataW.trod enc Try.prog w base spare held k 9 ((cs.drop 1).take (Try.prog.cellsOf 9)) = xs[1]? := hf 1 _ rfl
  have h2 : DataW.trod enc Try.prog w base spare held k 46 ((cs.drop 2).take (Try.prog.cellsOf 46)) = xs[2]? := hf 2 _ rfl
  have h3 : DataW.trod enc Try.prog w base spare held k 47 ((cs.drop 3).take (Try.prog.cellsOf 47)) = xs[3]? := hf 3 _ rfl
  have h4 : DataW.trod enc Try.prog w base spare held k 9 ((cs.drop 4).take (Try.prog.cellsOf 9)) = xs[4]? := hf 4 _ rfl
  have h5 : DataW.trod enc Try.prog w base spare held k 9 ((cs.drop 5).take (Try.prog.cellsOf 9)) = xs[5]? := hf 5 _ rfl
  match xs, hlen, cs, hl with
  | [x0, x1, x2, x3, x4, x5], _, [a0, a1, a2, a3, a4, a5], _ =>
    simp only [z1, z2, y1, y2] at h0 h1 h2 h3 h4 h5
    obtain ⟨n0, e0, _, _⟩ := DataW.trod_int Try.underlying3 (h0.trans rfl)
    obtain ⟨s1, e1, _, hs1⟩ := DataW.trod_string Try.underlying9 (h1.trans rfl)
    obtain ⟨cv, cs, e2, hc, hcf⟩ := open_cols (h2.trans rfl)
    obtain ⟨kv, ks, e3, hk, hkf⟩ := open_strs (h3.trans rfl)
    obtain ⟨s4, e4, _, hs4⟩ := DataW.trod_string Try.underlying9 (h4.trans rfl)
    obtain ⟨s5, e5, _, hs5⟩ := DataW.trod_string Try.underlying9 (h5.trans rfl)
    simp at e0 e1 e2 e3 e4 e5
    exact ⟨#[.int .i64 n0, .string s1, cv, kv, .string s4, .string s5], ⟨n0, s1, cs, ks, s4, s5⟩, by rw [e0, e1, e2, e3, e4, e5], ⟨cv, kv, rfl, hc, hk⟩, hs1, hcf, hkf, hs4, hs5⟩
end
end Go.Proofs.Ytikccmgpmbnkfaa

namespace Go.Proofs.Ytikccmgpmbnkfaa
open Go.ChangeShapes Go.WideShapes Go.ChangeAt Go.RowKit
theorem cellsSt : Try.prog.cellsOf 51 = 10 := by kernel_rfl
section
variable {H : Type} {enc : TypeId × Value → H} {w : World} {base : Nat} {spare : Nat → Bool} {held : Bool}
set_option maxRecDepth 100000 in
theorem open_stmt {n : Nat} {cs : List Value} {y : DataW H × List MemPlace} (h : DataW.trod enc Try.prog w base spare held n 51 cs = some y) : ∃ (x : Array Value) (t : Sc), cs = x.toList ∧ StmtV w x t ∧ t.fit := by
  obtain ⟨xs, k, rfl, rfl, hl, hlen, hf⟩ := DataW.trod_struct Try.underlying51 h
  obtain ⟨z1, z2⟩ := cellsR
  obtain ⟨y1, y2, _⟩ := cells1
  have z3 := cellsD
  rw [cellsSt] at hl
  have h0 : DataW.trod enc Try.prog w base spare held k 3 ((cs.drop 0).take (Try.prog.cellsOf 3)) = xs[0]? := hf 0 _ rfl
  have h1 : DataW.trod enc Try.prog w base spare held k 9 ((cs.drop 1).take (Try.prog.cellsOf 9)) = xs[1]? := hf 1 _ rfl
  have h2 : DataW.trod enc Try.prog w base spare held k 43 ((cs.drop 2).take (Try.prog.cellsOf 43)) = xs[2]? := hf 2 _ rfl
  have h3 : DataW.trod enc Try.prog w base spare held k 45 ((cs.drop 3).take (Try.prog.cellsOf 45)) = xs[3]? := hf 3 _ rfl
  have h4 : DataW.trod enc Try.prog w base spare held k 49 ((cs.drop 4).take (Try.prog.cellsOf 49)) = xs[4]? := hf 4 _ rfl
  match xs, hlen, cs, hl with
  | [x0, x1, x2, x3, x4], _, [a0, a1, a2, a3, a4, a5, a6, a7, a8, a9], _ =>
    simp only [z1, z2, z3, y1, y2] at h0 h1 h2 h3 h4
    obtain ⟨n0, e0, _, _⟩ := DataW.trod_int Try.underlying3 (h0.trans rfl)
    obtain ⟨s1, e1, _, hs1⟩ := DataW.trod_string Try.underlying9 (h1.trans rfl)
    obtain ⟨kv, ks, e2, hk, hkf⟩ := open_vals (h2.trans rfl)
    obtain ⟨rv, rs, e3, hr, hrf⟩ := open_rw (h3.trans rfl)
    obtain ⟨dx, dc, e4, hd, hdf⟩ := open_ddl (h4.trans rfl)
    obtain ⟨cv, sv, rfl, hc, ho⟩ := hd
    simp at e0 e1 e2 e3 e4
    obtain ⟨e4, e5, e6, e7, e8, e9⟩ := e4
    exact ⟨Sc.cells ⟨n0, s1, ks, rs, dc⟩ kv rv cv sv, ⟨n0, s1, ks, rs, dc⟩, by simp [e0, e1, e2, e3, e4, e5, e6, e7, e8, e9], ⟨kv, rv, cv, sv, rfl, hk, hr, hc, ho⟩, hs1, hkf, hrf, hdf⟩
end
end Go.Proofs.Ytikccmgpmbnkfaa
