/- Words, values and rows as bytes: landed. -/
import Derived.Test.YtikccmgpmbnkfaaWp
import Derived.Test.YtikccmgpmbnkfaaPl
namespace Go.Proofs.Ytikccmgpmbnkfaa
open Go.ChangeShapes Go.WideShapes Go.ChangeAt Go.RowKit

set_option maxRecDepth 100000 in
set_option maxHeartbeats 1000000 in
/-- impl.writerOf -/
theorem writerOf_any (lv : Value) (ns : List Nat) (w : World) (hl : IntsV w lv (ns.map natI)) (hns : ns.length ≤ 1000) :
    Calls Try.prog 47 #[lv] w fun e w' => ∃ bw, e = .returned (.pointer (some ⟨bw, 0, none⟩)) ∧ w.heap.size ≤ bw ∧ Below w.heap.size w w' ∧ WIs w' bw (ns.flatMap (fun n => numL n 1)) := by
  obtain ⟨a, cap, rfl, _, _, hl⟩ := hl.lit
  rw [List.length_map] at hl ⊢
  have HI : Hid (IntsV w (.slice a ns.length cap) (ns.map natI)) := hl
  clear hl
  have HW : Hid (WIs (w.alloc (.cells #[.slice none 0 0] 95)) w.heap.size []) := ⟨_, Own.new _ _ _, Got.nil _ _ _ _⟩
  go_enter Try.func47, Try.ntmps47
  go_wp2_with fail
  refine (nums_any w.heap.size 1 _ ns [] _ HW.out (fun u hu => HI.out.on ((ch_alloc (Below.refl _ _) _).trans hu.1)) (by omega) (by simp; omega)).mono ?_
  rintro e w1 ⟨rfl, hw1, ht1⟩
  have HW1 : Hid (WIs w1 w.heap.size (ns.flatMap (fun n => numL n 1))) := by
    show WIs _ _ _
    simpa using hw1
  have hb1 : Below w.heap.size w w1 := (ch_alloc (Below.refl _ _) _).trans ht1.1
  clear hw1 ht1
  go_wp2
  go_ret
  exact ⟨_, rfl, Nat.le_refl _, hb1, HW1.out⟩

def okWord (s : ByteArray) : Prop := s.size = 0 ∨ wordB s = true
theorem okWord_size {s : ByteArray} (h : okWord s) : s.size ≤ 8 := by
  rcases h with h | h
  · omega
  · unfold wordB at h
    simp at h
    omega
theorem writer_out {w : World} {bw : Nat} {L : List UInt8} (h : WIs w bw L) : ∃ a n c, w.cell? ⟨bw, 0, none⟩ = some (.slice a n c) ∧ Got w (bw + 1) 5 1 (.slice a n c) (L.map byX) := by
  obtain ⟨v, ho, hg⟩ := h
  obtain ⟨a, n, c, rfl, hg⟩ := hg.lit2
  exact ⟨a, n, c, ho.loc.one, hg⟩
theorem empty_yes {s : ByteArray} (h : s.size = 0) : s.toList.isEmpty = true := by
  rw [ByteArray.toList_eq, List.isEmpty_iff_length_eq_zero]
  simpa using h
theorem size_empty {s : ByteArray} (h : s.toList.isEmpty = true) : s.size = 0 := by
  rw [ByteArray.toList_eq, List.isEmpty_iff_length_eq_zero] at h
  simpa using h
theorem ok_below (c : Vc) (w : World) : Calls Try.prog 103 #[.agg c.cells] w fun e w' => e = .returned (.bool (okB c.ty c.n c.s)) ∧ Below w.heap.size w w' :=
  (ok_impl c.ty c.n c.s w).mono fun e w' ⟨he, k, hw⟩ => ⟨he, by subst hw; exact (by repeat (first | with_reducible exact Below.refl _ _ | with_reducible assumption | with_reducible refine ch_alloc ?_ _ | with_reducible refine Below.drew ?_ | with_reducible refine below_draws _ ?_ | (with_reducible refine Below.setCell ?_ ?_ _; rotate_left; focus (first | with_reducible exact Nat.le_refl _ | (simp; done) | (simp; omega) | (simp at *; omega))) | with_reducible refine ch_trans ?_ (by with_reducible assumption)))⟩
theorem writerOf_none (u : World) : Calls Try.prog 47 #[.slice none 0 0] u fun e w' => ∃ bw, e = .returned (.pointer (some ⟨bw, 0, none⟩)) ∧ u.heap.size ≤ bw ∧ Below u.heap.size u w' ∧ WIs w' bw [] := by
  have := writerOf_any (.slice none 0 0) [] u ⟨_, _, rfl, Nat.le_refl _, Nat.zero_le _, RowAt.nil _ _ _⟩ (by simp)
  simpa using this

end Go.Proofs.Ytikccmgpmbnkfaa
