/- The laws' copies of rows, with their shape. -/
import Derived.Test.YtiijahoheajppabNw
import Derived.Test.YtiijahoheajppabDa
namespace Go.Proofs.Ytiijahoheajppab
open Go.ChangeShapes Go.WideShapes Go.ChangeAt Go.RowKit

set_option maxRecDepth 100000 in
set_option maxHeartbeats 1000000 in
/-- laws.toRowS -/
theorem toRowS_full (v : Value) (rs : List (List Vc)) (w : World) (hx : RowsV w v rs) (hf : rfews rs) :
    Calls Try.prog 81 #[v] w fun e w' => ∃ B, e = .returned (.slice (some ⟨B, 0, none⟩) rs.length rs.length) ∧ w.heap.size ≤ B ∧ Below w.heap.size w w' ∧ Rfill w' B 52 rs rs.length ∧ New RowsS B w' (.slice (some ⟨B, 0, none⟩) rs.length rs.length) := by
  obtain ⟨a, cap, rfl, hl, hm, hx⟩ := hx.lit
  unfold maxLen at hm
  have HX : Hid (RowsV w (.slice a rs.length cap) rs) := hx
  obtain ⟨hn, hf⟩ := hf
  have HF : Hid (∀ r ∈ rs, r.length ≤ 1048576) := hf
  clear hx hf
  have hmk := run_makes (P := Try.prog) 99 52 (.agg #[.slice none 0 0]) _ 1 24 Try.underlying99 (by kernel_rfl) rfl .i64 .i64 rs.length (by omega) (by omega)
  rw [Nat.mul_one] at hmk
  go_enter Try.func81, Try.ntmps81
  go_wp2
  have HT : Hid (Rfill (w.alloc (.cells (madeCells #[.slice none 0 0] rs.length) 52)) w.heap.size 52 rs 0) := ⟨[], Fill.new w _ 1 rs.length _ ((size_madeCells _ _).trans (Nat.mul_one _).symm), rfl, fun i h => by simp at h⟩
  have HN0 : Hid (Nfill ValsS (w.alloc (.cells (madeCells #[.slice none 0 0] rs.length) 52)) w.heap.size 52 rs.length 0) := ⟨_, World.rowIs_made w _ _ _, fun i h => by omega⟩
  go_loopw [4] (fun i wr => ∃ k : Nat, k ≤ rs.length ∧ i = .int .i64 k ∧ Below w.heap.size w wr ∧ Hid (Rfill wr w.heap.size 52 rs k) ∧ Hid (Nfill ValsS wr w.heap.size 52 rs.length k)) (fun i _ => rs.length - (intOf i).toNat)
  case atStart => exact ⟨0, Nat.zero_le _, rfl, (by repeat (first | with_reducible exact Below.refl _ _ | with_reducible assumption | with_reducible refine ch_alloc ?_ _ | with_reducible refine Below.drew ?_ | with_reducible refine below_draws _ ?_ | (with_reducible refine Below.setCell ?_ ?_ _; rotate_left; focus (first | with_reducible exact Nat.le_refl _ | (simp; done) | (simp; omega) | (simp at *; omega))) | with_reducible refine ch_trans ?_ (by with_reducible assumption))), HT, HN0⟩
  case round =>
    clear HT HN0
    obtain ⟨k, hk, rfl, hb, HT, HN⟩ := hrel
    by_cases hlt : k < rs.length
    · have hlti : (k : Int) < rs.length := by omega
      obtain ⟨b, off, c, p, rfl, d0, hx⟩ := (HX.out.on hb).rw k hlt
      have HY : Hid (ValsV wr (.slice c rs[k].length p) rs[k]) := hx
      clear hx
      go_wp2_with fail
      refine (toRow_any _ rs[k] _ (HY.out.on (by repeat (first | with_reducible exact Below.refl _ _ | with_reducible assumption | with_reducible refine ch_alloc ?_ _ | with_reducible refine Below.drew ?_ | with_reducible refine below_draws _ ?_ | (with_reducible refine Below.setCell ?_ ?_ _; rotate_left; focus (first | with_reducible exact Nat.le_refl _ | (simp; done) | (simp; omega) | (simp at *; omega))) | with_reducible refine ch_trans ?_ (by with_reducible assumption)))) (HF.out _ (List.getElem_mem hlt))).mono ?_
      rintro e w1 ⟨B, rfl, hB1, b1, hy⟩
      have hB : w.heap.size + 1 ≤ wr.heap.size := by
        obtain ⟨ys, hF, _, _⟩ := HT.out
        exact hF.lt
      have hT1 := HT.out.on b1
      have hrl := HF.out _ (List.getElem_mem hlt)
      have HT' : Hid (Rfill (stores w1 w.heap.size k [.slice (some ⟨B, 0, none⟩) rs[k].length rs[k].length]) w.heap.size 52 rs (k + 1)) := hT1.put hlt (hy.valsV (by unfold maxLen; omega)) ((from_new _ _ _).mono (by omega))
      have HN' : Hid (Nfill ValsS (w1.setCell ⟨w.heap.size, k, none⟩ (.slice (some ⟨B, 0, none⟩) rs[k].length rs[k].length)) w.heap.size 52 rs.length (k + 1)) := (HN.out.on ValsS.good b1).put ValsS.good ((hy.valsN hrl).mono ValsS.good (by omega))
      obtain ⟨ys, hF, hyl, _⟩ := hT1
      obtain ⟨v0, g0, f0⟩ := hF.one (k := k) (by simpa using hyl) hlt
      clear hy hF hyl hrl hB1
      go_wp2
      go_round
      case rel => exact ⟨k + 1, by omega, by go_num, (by repeat (first | with_reducible exact Below.refl _ _ | with_reducible assumption | with_reducible refine ch_alloc ?_ _ | with_reducible refine Below.drew ?_ | with_reducible refine below_draws _ ?_ | (with_reducible refine Below.setCell ?_ ?_ _; rotate_left; focus (first | with_reducible exact Nat.le_refl _ | (simp; done) | (simp; omega) | (simp at *; omega))) | with_reducible refine ch_trans ?_ (by with_reducible assumption))), HT', HN'⟩
      case measure => simp [intOf]; omega
    · have hlti : (rs.length : Int) ≤ k := by omega
      obtain rfl : k = rs.length := by omega
      go_wp2
      go_ret
      exact ⟨_, rfl, Nat.le_refl _, (by repeat (first | with_reducible exact Below.refl _ _ | with_reducible assumption | with_reducible refine ch_alloc ?_ _ | with_reducible refine Below.drew ?_ | with_reducible refine below_draws _ ?_ | (with_reducible refine Below.setCell ?_ ?_ _; rotate_left; focus (first | with_reducible exact Nat.le_refl _ | (simp; done) | (simp; omega) | (simp at *; omega))) | with_reducible refine ch_trans ?_ (by with_reducible assumption))), HT.out, HN.out.done ValsS.good (by omega)⟩
set_option maxRecDepth 100000 in
set_option maxHeartbeats 1000000 in
/-- laws.toRows -/
theorem toRows_full (v : Value) (rs : List (List Vc)) (w : World) (hx : RowsV w v rs) (hn : rfews rs) :
    Calls Try.prog 48 #[.agg #[v]] w fun e w' => ∃ y, e = .returned (.agg #[y]) ∧ Below w.heap.size w w' ∧ Firm w.heap.size (fun u => RowsV u y rs) w' ∧ New RowsS w.heap.size w' y := by
  obtain ⟨a, cap, rfl, hl, hm, hx⟩ := hx.lit
  have HX : Hid (RowsV w (.slice a rs.length cap) rs) := hx
  have hn1 : rs.length ≤ maxLen := by have := hn.1; unfold maxLen; omega
  have HN : Hid (rfews rs) := hn
  clear hx hn
  go_enter Try.func48, Try.ntmps48
  go_wp2_with fail
  refine (toRowS_full _ rs _ (HX.out.on (by repeat (first | with_reducible exact Below.refl _ _ | with_reducible assumption | with_reducible refine ch_alloc ?_ _ | with_reducible refine Below.drew ?_ | with_reducible refine below_draws _ ?_ | (with_reducible refine Below.setCell ?_ ?_ _; rotate_left; focus (first | with_reducible exact Nat.le_refl _ | (simp; done) | (simp; omega) | (simp at *; omega))) | with_reducible refine ch_trans ?_ (by with_reducible assumption)))) HN.out).mono ?_
  rintro e w1 ⟨B, rfl, hB, b1, hf, hnw⟩
  have hB3 : w.heap.size + 1 + 1 + 1 ≤ B := by simpa using hB
  have HO : Own w1 (w.heap.size + 1 + 1) 101 #[.slice none 0 0] := (Own.at ((w.alloc (.cells #[.slice a rs.length cap] 94)).alloc (.cells #[.slice none 0 0] 101)) _ _ (by simp)).on b1
  have HQ : Own w1 (w.heap.size + 1) 101 #[.slice none 0 0] := ((Own.at (w.alloc (.cells #[.slice a rs.length cap] 94)) _ _ (by simp)).on (ch_alloc (Below.refl _ _) _)).on b1
  have HF : Hid (Firm (w.heap.size + 1 + 1 + 1) (fun u => RowsV u (.slice (some ⟨B, 0, none⟩) rs.length rs.length) rs) w1) := (hf.firm hn1).mono hB3
  have HW : Hid (New RowsS (w.heap.size + 1 + 1 + 1) w1 (.slice (some ⟨B, 0, none⟩) rs.length rs.length)) := hnw.mono RowsS.good hB3
  clear hf hB hnw
  have d0 := HO.loc.one
  have f0 := HO.frozen 0
  have g0 := HQ.loc.one
  have i0 := HQ.frozen 0
  go_wp2
  have HQ3 : Own _ _ _ #[.slice (some ⟨B, 0, none⟩) rs.length rs.length] := ((HQ.other (p := ⟨w.heap.size + 1 + 1, 0, none⟩) (by simp) (.slice (some ⟨B, 0, none⟩) rs.length rs.length)).set 0 (.slice (some ⟨B, 0, none⟩) rs.length rs.length))
  have HF3 : Hid (Firm (w.heap.size + 1 + 1 + 1) (fun u => RowsV u (.slice (some ⟨B, 0, none⟩) rs.length rs.length) rs) ((w1.setCell ⟨w.heap.size + 1 + 1, 0, none⟩ (.slice (some ⟨B, 0, none⟩) rs.length rs.length)).setCell ⟨w.heap.size + 1, 0, none⟩ (.slice (some ⟨B, 0, none⟩) rs.length rs.length))) := (HF.out.set (by simp) _).set (by simp) _
  have HW3 : Hid (New RowsS (w.heap.size + 1 + 1 + 1) ((w1.setCell ⟨w.heap.size + 1 + 1, 0, none⟩ (.slice (some ⟨B, 0, none⟩) rs.length rs.length)).setCell ⟨w.heap.size + 1, 0, none⟩ (.slice (some ⟨B, 0, none⟩) rs.length rs.length)) (.slice (some ⟨B, 0, none⟩) rs.length rs.length)) := (HW.out.set RowsS.good (by simp) _).set RowsS.good (by simp) _
  have HB : Hid (Below w.heap.size w ((w1.setCell ⟨w.heap.size + 1 + 1, 0, none⟩ (.slice (some ⟨B, 0, none⟩) rs.length rs.length)).setCell ⟨w.heap.size + 1, 0, none⟩ (.slice (some ⟨B, 0, none⟩) rs.length rs.length))) := by
    show Below _ _ _
    exact (by repeat (first | with_reducible exact Below.refl _ _ | with_reducible assumption | with_reducible refine ch_alloc ?_ _ | with_reducible refine Below.drew ?_ | with_reducible refine below_draws _ ?_ | (with_reducible refine Below.setCell ?_ ?_ _; rotate_left; focus (first | with_reducible exact Nat.le_refl _ | (simp; done) | (simp; omega) | (simp at *; omega))) | with_reducible refine ch_trans ?_ (by with_reducible assumption)))
  generalize ((w1.setCell ⟨w.heap.size + 1 + 1, 0, none⟩ (.slice (some ⟨B, 0, none⟩) rs.length rs.length)).setCell ⟨w.heap.size + 1, 0, none⟩ (.slice (some ⟨B, 0, none⟩) rs.length rs.length)) = W at HQ3 HB HF3 HW3 ⊢
  have e0 := HQ3.loc.one
  exact bodyPost_ret (v := .agg #[.slice (some ⟨B, 0, none⟩) rs.length rs.length]) (by simp [results, Try.results48, go_sem, e0]) rfl ⟨_, rfl, HB.out, HF3.out.mono (by omega), HW3.out.mono RowsS.good (by omega)⟩

set_option maxRecDepth 100000 in
set_option maxHeartbeats 1000000 in
/-- laws.toRowsS -/
theorem toRowsS_full (v : Value) (ds : List (List (List Vc))) (w : World) (hx : DataV w v ds) (hf : dfews ds) :
    Calls Try.prog 24 #[v] w fun e w' => ∃ B, e = .returned (.slice (some ⟨B, 0, none⟩) ds.length ds.length) ∧ w.heap.size ≤ B ∧ Below w.heap.size w w' ∧ Dfill w' B 101 ds ds.length ∧ New DataS B w' (.slice (some ⟨B, 0, none⟩) ds.length ds.length) := by
  obtain ⟨a, cap, rfl, hl, hm, hx⟩ := hx.lit
  unfold maxLen at hm
  have HX : Hid (DataV w (.slice a ds.length cap) ds) := hx
  obtain ⟨hn, hf⟩ := hf
  have HF : Hid (∀ r ∈ ds, rfews r) := hf
  clear hx hf
  have hmk := run_makes (P := Try.prog) 35 101 (.agg #[.slice none 0 0]) _ 1 24 Try.underlying35 (by kernel_rfl) rfl .i64 .i64 ds.length (by omega) (by omega)
  rw [Nat.mul_one] at hmk
  go_enter Try.func24, Try.ntmps24
  go_wp2
  have HT : Hid (Dfill (w.alloc (.cells (madeCells #[.slice none 0 0] ds.length) 101)) w.heap.size 101 ds 0) := ⟨[], Fill.new w _ 1 ds.length _ ((size_madeCells _ _).trans (Nat.mul_one _).symm), rfl, fun i h => by simp at h⟩
  have HN0 : Hid (Nfill RowsS (w.alloc (.cells (madeCells #[.slice none 0 0] ds.length) 101)) w.heap.size 101 ds.length 0) := ⟨_, World.rowIs_made w _ _ _, fun i h => by omega⟩
  go_loopw [4] (fun i wr => ∃ k : Nat, k ≤ ds.length ∧ i = .int .i64 k ∧ Below w.heap.size w wr ∧ Hid (Dfill wr w.heap.size 101 ds k) ∧ Hid (Nfill RowsS wr w.heap.size 101 ds.length k)) (fun i _ => ds.length - (intOf i).toNat)
  case atStart => exact ⟨0, Nat.zero_le _, rfl, (by repeat (first | with_reducible exact Below.refl _ _ | with_reducible assumption | with_reducible refine ch_alloc ?_ _ | with_reducible refine Below.drew ?_ | with_reducible refine below_draws _ ?_ | (with_reducible refine Below.setCell ?_ ?_ _; rotate_left; focus (first | with_reducible exact Nat.le_refl _ | (simp; done) | (simp; omega) | (simp at *; omega))) | with_reducible refine ch_trans ?_ (by with_reducible assumption))), HT, HN0⟩
  case round =>
    clear HT HN0
    obtain ⟨k, hk, rfl, hb, HT, HN⟩ := hrel
    by_cases hlt : k < ds.length
    · have hlti : (k : Int) < ds.length := by omega
      obtain ⟨b, off, c, p, rfl, d0, hx⟩ := (HX.out.on hb).rw k hlt
      have HY : Hid (RowsV wr (.slice c ds[k].length p) ds[k]) := hx
      clear hx
      go_wp2_with fail
      refine (toRows_full _ ds[k] _ (HY.out.on (by repeat (first | with_reducible exact Below.refl _ _ | with_reducible assumption | with_reducible refine ch_alloc ?_ _ | with_reducible refine Below.drew ?_ | with_reducible refine below_draws _ ?_ | (with_reducible refine Below.setCell ?_ ?_ _; rotate_left; focus (first | with_reducible exact Nat.le_refl _ | (simp; done) | (simp; omega) | (simp at *; omega))) | with_reducible refine ch_trans ?_ (by with_reducible assumption)))) (HF.out _ (List.getElem_mem hlt))).mono ?_
      rintro e w1 ⟨y, rfl, b1, hy, hnw⟩
      have hB : w.heap.size + 1 ≤ wr.heap.size := by
        obtain ⟨ys, hF, _, _⟩ := HT.out
        exact hF.lt
      have hT1 := HT.out.on b1
      obtain ⟨ay, py, rfl, _⟩ := hy.out.lit
      have HT' : Hid (Dfill (stores w1 w.heap.size k [.slice ay ds[k].length py]) w.heap.size 101 ds (k + 1)) := hT1.put hlt (hy.mono (by omega))
      have HN' : Hid (Nfill RowsS (w1.setCell ⟨w.heap.size, k, none⟩ (.slice ay ds[k].length py)) w.heap.size 101 ds.length (k + 1)) := (HN.out.on RowsS.good b1).put RowsS.good (hnw.mono RowsS.good (by omega))
      obtain ⟨ys, hF, hyl, _⟩ := hT1
      obtain ⟨v0, g0, f0⟩ := hF.one (k := k) (by simpa using hyl) hlt
      clear hy hF hyl hnw
      go_wp2
      go_round
      case rel => exact ⟨k + 1, by omega, by go_num, (by repeat (first | with_reducible exact Below.refl _ _ | with_reducible assumption | with_reducible refine ch_alloc ?_ _ | with_reducible refine Below.drew ?_ | with_reducible refine below_draws _ ?_ | (with_reducible refine Below.setCell ?_ ?_ _; rotate_left; focus (first | with_reducible exact Nat.le_refl _ | (simp; done) | (simp; omega) | (simp at *; omega))) | with_reducible refine ch_trans ?_ (by with_reducible assumption))), HT', HN'⟩
      case measure => simp [intOf]; omega
    · have hlti : (ds.length : Int) ≤ k := by omega
      obtain rfl : k = ds.length := by omega
      go_wp2
      go_ret
      exact ⟨_, rfl, Nat.le_refl _, (by repeat (first | with_reducible exact Below.refl _ _ | with_reducible assumption | with_reducible refine ch_alloc ?_ _ | with_reducible refine Below.drew ?_ | with_reducible refine below_draws _ ?_ | (with_reducible refine Below.setCell ?_ ?_ _; rotate_left; focus (first | with_reducible exact Nat.le_refl _ | (simp; done) | (simp; omega) | (simp at *; omega))) | with_reducible refine ch_trans ?_ (by with_reducible assumption))), HT.out, HN.out.done RowsS.good (by omega)⟩
end Go.Proofs.Ytiijahoheajppab
