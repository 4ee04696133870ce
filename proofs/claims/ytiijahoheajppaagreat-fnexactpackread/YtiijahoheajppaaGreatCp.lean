/- Copies, whole blocks each: columns, texts, tables. -/
import Derived.Test.YtiijahoheajppaaGreatRw
namespace Go.Proofs.YtiijahoheajppaaGreat
open Go.ChangeShapes Go.WideShapes Go.ChangeAt Go.RowKit

set_option maxRecDepth 100000 in
set_option maxHeartbeats 1000000 in
/-- laws.toColS -/
theorem toColS_full (cv : Value) (cs : List Cl) (w : World) (hc : ColsV w cv cs) (hn : cs.length ≤ 1048576) :
    Calls Tryz.prog 149 #[cv] w fun e w' => e = .returned (.slice (some ⟨w.heap.size, 0, none⟩) cs.length cs.length) ∧ Below w.heap.size w w' ∧ Fill w' w.heap.size 131 7 cs.length (cs.map Cl.cells) := by
  obtain ⟨a, cap, rfl, hl, hm, hc⟩ := hc
  unfold maxLen at hm
  have HC : Hid (RowAt w a 7 (cs.map Cl.cells)) := hc
  clear hc
  have hmk := run_makes (P := Tryz.prog) 43 131 (.agg #[.string ByteArray.empty, .int .i64 0, .bool false, .bool false, .int .i64 0, .int .i64 0, .string ByteArray.empty]) _ 7 64 Tryz.underlying43 (by kernel_rfl) rfl .i64 .i64 cs.length (by omega) (by omega)
  go_enter Tryz.func149, Tryz.ntmps149
  go_wp2
  have HF : Hid (Fill (w.alloc (.cells (madeCells #[.string ByteArray.empty, .int .i64 0, .bool false, .bool false, .int .i64 0, .int .i64 0, .string ByteArray.empty] (cs.length * 7)) 131)) w.heap.size 131 7 cs.length ((cs.take 0).map Cl.cells)) := Fill.new w _ 7 cs.length _ (size_madeCells _ _)
  go_loopw [4] (fun i wr => ∃ k : Nat, k ≤ cs.length ∧ i = .int .i64 k ∧ Below w.heap.size w wr ∧ Hid (Fill wr w.heap.size 131 7 cs.length ((cs.take k).map Cl.cells))) (fun i _ => cs.length - (intOf i).toNat)
  case atStart => exact ⟨0, Nat.zero_le _, rfl, (by repeat (first | with_reducible exact Below.refl _ _ | with_reducible assumption | with_reducible refine ch_alloc ?_ _ | with_reducible refine Below.drew ?_ | with_reducible refine below_draws _ ?_ | (with_reducible refine Below.setCell ?_ ?_ _; rotate_left; focus (first | with_reducible exact Nat.le_refl _ | (simp; done) | (simp; omega) | (simp at *; omega))) | with_reducible refine ch_trans ?_ (by with_reducible assumption))), HF⟩
  case round =>
    clear HF
    obtain ⟨k, hk, rfl, hb, HF⟩ := hrel
    by_cases hlt : k < cs.length
    · have hlti : (k : Int) < cs.length := by omega
      obtain ⟨b, off, rfl, c0, c1, c2, c3, c4, c5, c6⟩ := (HC.out.on hb).cols k hlt
      have HS : Hid (∀ w : World, Calls Tryz.prog 158 #[cs[k].v] w fun e w' => e = .returned cs[k].v ∧ Below w.heap.size w w') := fun w => toCol_any cs[k] w
      go_wp2_with (go_at_call 158; refine (HS.out _).mono ?_; rintro e w1 ⟨rfl, b1⟩
                   obtain ⟨v0, v1, v2, v3, v4, v5, v6, ⟨g0, g1, g2, g3, g4, g5, g6⟩, f0, f1, f2, f3, f4, f5, f6⟩ := (HF.out.on b1).seven (k := k) (by simp; omega) hlt)
      have HF' : Hid (Fill (stores w1 w.heap.size (k * 7) cs[k].cells.toList) w.heap.size 131 7 cs.length ((cs.take (k + 1)).map Cl.cells)) := (HF.out.on b1).col hlt hlt
      go_round
      case rel => exact ⟨k + 1, by omega, by go_num, (by repeat (first | with_reducible exact Below.refl _ _ | with_reducible assumption | with_reducible refine ch_alloc ?_ _ | with_reducible refine Below.drew ?_ | with_reducible refine below_draws _ ?_ | (with_reducible refine Below.setCell ?_ ?_ _; rotate_left; focus (first | with_reducible exact Nat.le_refl _ | (simp; done) | (simp; omega) | (simp at *; omega))) | with_reducible refine ch_trans ?_ (by with_reducible assumption))), HF'⟩
      case measure => simp [intOf]; omega
    · have hlti : (cs.length : Int) ≤ k := by omega
      have HR : Hid (Fill wr w.heap.size 131 7 cs.length (cs.map Cl.cells)) := by
        have := HF.out
        rwa [List.take_of_length_le (by omega)] at this
      go_wp2
      go_ret
      exact ⟨rfl, (by repeat (first | with_reducible exact Below.refl _ _ | with_reducible assumption | with_reducible refine ch_alloc ?_ _ | with_reducible refine Below.drew ?_ | with_reducible refine below_draws _ ?_ | (with_reducible refine Below.setCell ?_ ?_ _; rotate_left; focus (first | with_reducible exact Nat.le_refl _ | (simp; done) | (simp; omega) | (simp at *; omega))) | with_reducible refine ch_trans ?_ (by with_reducible assumption))), HR.out.on (by repeat (first | with_reducible exact Below.refl _ _ | with_reducible assumption | with_reducible refine ch_alloc ?_ _ | with_reducible refine Below.drew ?_ | with_reducible refine below_draws _ ?_ | (with_reducible refine Below.setCell ?_ ?_ _; rotate_left; focus (first | with_reducible exact Nat.le_refl _ | (simp; done) | (simp; omega) | (simp at *; omega))) | with_reducible refine ch_trans ?_ (by with_reducible assumption)))⟩

set_option maxRecDepth 100000 in
set_option maxHeartbeats 1000000 in
/-- laws.toStringS -/
theorem toStringS_full (kv : Value) (ks : List ByteArray) (w : World) (hc : StrsV w kv ks) (hn : ks.length ≤ 1048576) :
    Calls Tryz.prog 106 #[kv] w fun e w' => e = .returned (.slice (some ⟨w.heap.size, 0, none⟩) ks.length ks.length) ∧ Below w.heap.size w w' ∧ Fill w' w.heap.size 9 1 ks.length (ks.map strX) := by
  obtain ⟨a, cap, rfl, hl, hm, hc⟩ := hc
  unfold maxLen at hm
  have HC : Hid (RowAt w a 1 (ks.map strX)) := hc
  clear hc
  have hmk := run_makes (P := Tryz.prog) 44 9 (.string ByteArray.empty) #[.string ByteArray.empty] 1 16 Tryz.underlying44 (by kernel_rfl) rfl .i64 .i64 ks.length (by omega) (by omega)
  rw [Nat.mul_one] at hmk
  go_enter Tryz.func106, Tryz.ntmps106
  go_wp2
  have HF : Hid (Fill (w.alloc (.cells (madeCells #[.string ByteArray.empty] ks.length) 9)) w.heap.size 9 1 ks.length ((ks.take 0).map strX)) := Fill.new w _ 1 ks.length _ ((size_madeCells _ _).trans (Nat.mul_one _).symm)
  go_loopw [4] (fun i wr => ∃ k : Nat, k ≤ ks.length ∧ i = .int .i64 k ∧ Below w.heap.size w wr ∧ Hid (Fill wr w.heap.size 9 1 ks.length ((ks.take k).map strX))) (fun i _ => ks.length - (intOf i).toNat)
  case atStart => exact ⟨0, Nat.zero_le _, rfl, (by repeat (first | with_reducible exact Below.refl _ _ | with_reducible assumption | with_reducible refine ch_alloc ?_ _ | with_reducible refine Below.drew ?_ | with_reducible refine below_draws _ ?_ | (with_reducible refine Below.setCell ?_ ?_ _; rotate_left; focus (first | with_reducible exact Nat.le_refl _ | (simp; done) | (simp; omega) | (simp at *; omega))) | with_reducible refine ch_trans ?_ (by with_reducible assumption))), HF⟩
  case round =>
    clear HF
    obtain ⟨k, hk, rfl, hb, HF⟩ := hrel
    by_cases hlt : k < ks.length
    · have hlti : (k : Int) < ks.length := by omega
      obtain ⟨b, off, rfl, c0⟩ := (HC.out.on hb).strs k hlt
      obtain ⟨v0, g0, f0⟩ := HF.out.one (k := k) (by simp; omega) hlt
      have HF' : Hid (Fill (stores wr w.heap.size k [.string ks[k]]) w.heap.size 9 1 ks.length ((ks.take (k + 1)).map strX)) := HF.out.str hlt hlt
      go_wp2
      go_round
      case rel => exact ⟨k + 1, by omega, by go_num, (by repeat (first | with_reducible exact Below.refl _ _ | with_reducible assumption | with_reducible refine ch_alloc ?_ _ | with_reducible refine Below.drew ?_ | with_reducible refine below_draws _ ?_ | (with_reducible refine Below.setCell ?_ ?_ _; rotate_left; focus (first | with_reducible exact Nat.le_refl _ | (simp; done) | (simp; omega) | (simp at *; omega))) | with_reducible refine ch_trans ?_ (by with_reducible assumption))), HF'⟩
      case measure => simp [intOf]; omega
    · have hlti : (ks.length : Int) ≤ k := by omega
      have HR : Hid (Fill wr w.heap.size 9 1 ks.length (ks.map strX)) := by
        have := HF.out
        rwa [List.take_of_length_le (by omega)] at this
      go_wp2
      go_ret
      exact ⟨rfl, (by repeat (first | with_reducible exact Below.refl _ _ | with_reducible assumption | with_reducible refine ch_alloc ?_ _ | with_reducible refine Below.drew ?_ | with_reducible refine below_draws _ ?_ | (with_reducible refine Below.setCell ?_ ?_ _; rotate_left; focus (first | with_reducible exact Nat.le_refl _ | (simp; done) | (simp; omega) | (simp at *; omega))) | with_reducible refine ch_trans ?_ (by with_reducible assumption))), HR.out.on (by repeat (first | with_reducible exact Below.refl _ _ | with_reducible assumption | with_reducible refine ch_alloc ?_ _ | with_reducible refine Below.drew ?_ | with_reducible refine below_draws _ ?_ | (with_reducible refine Below.setCell ?_ ?_ _; rotate_left; focus (first | with_reducible exact Nat.le_refl _ | (simp; done) | (simp; omega) | (simp at *; omega))) | with_reducible refine ch_trans ?_ (by with_reducible assumption)))⟩

theorem Fill.colsV {w : World} {B : Nat} {T : TypeId} {cs : List Cl} (h : Fill w B T 7 cs.length (cs.map Cl.cells)) (hn : cs.length ≤ maxLen) : ColsV w (.slice (some ⟨B, 0, none⟩) cs.length cs.length) cs := ⟨_, _, rfl, Nat.le_refl _, hn, h.row⟩
theorem Fill.strsV {w : World} {B : Nat} {T : TypeId} {ks : List ByteArray} (h : Fill w B T 1 ks.length (ks.map strX)) (hn : ks.length ≤ maxLen) : StrsV w (.slice (some ⟨B, 0, none⟩) ks.length ks.length) ks := ⟨_, _, rfl, Nat.le_refl _, hn, h.row⟩

end Go.Proofs.YtiijahoheajppaaGreat
