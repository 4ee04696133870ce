/- Marks read again: texts, columns. -/
import Derived.Test.YtiijahoheajppaaGreatMarkC
namespace Go.Proofs.YtiijahoheajppaaGreat
open Go.ChangeShapes Go.WideShapes Go.ChangeAt Go.RowKit

set_option maxRecDepth 100000 in
set_option maxHeartbeats 1000000 in
/-- laws.heldStringS -/
theorem heldStringS_wide (b n cap m : Nat) (T : TypeId) (f : Nat → Value) (k : Nat) (w : World) (hr : w.rowIs b T m f) (hn : n ≤ m) (hl : n ≤ 2000000) (hk : k ≤ 8000000000000000000) (hf : ∀ i, i < n → f i = .string (markB (k + i))) :
    Calls Tryz.prog 93 #[.slice (some ⟨b, 0, none⟩) n cap, .int .i64 k] w fun e w' => e = .returned (.int .i64 ((k + n : Nat) : Int)) ∧ Below w.heap.size w w' := by
  have HR : Hid (w.rowIs b T m f) := hr
  have HF : Hid (∀ i, i < n → f i = .string (markB (k + i))) := hf
  clear hr hf
  go_enter Tryz.func93, Tryz.ntmps93
  go_wp2
  go_loopw [1, 5] (fun q i wr => ∃ j K : Nat, j ≤ n ∧ i = .int .i64 j ∧ q = .int .i64 (K : Int) ∧ Hid (K = k + j) ∧ Below w.heap.size w wr) (fun _ i _ => n - (intOf i).toNat)
  case atStart => exact ⟨0, k, Nat.zero_le _, rfl, rfl, rfl, (by repeat (first | with_reducible exact Below.refl _ _ | with_reducible assumption | with_reducible refine ch_alloc ?_ _ | with_reducible refine Below.drew ?_ | with_reducible refine below_draws _ ?_ | (with_reducible refine Below.setCell ?_ ?_ _; rotate_left; focus (first | with_reducible exact Nat.le_refl _ | (simp; done) | (simp; omega) | (simp at *; omega))) | with_reducible refine ch_trans ?_ (by with_reducible assumption)))⟩
  case round =>
    obtain ⟨j, K, hj, rfl, rfl, HK, hb⟩ := hrel
    have hKb : K ≤ 8100000000000000000 := by have := HK.out; omega
    by_cases hlt : j < n
    · have hlti : (j : Int) < n := by omega
      have g0 := (rowIs_on HR.out hb).cell (i := j) (by omega)
      rw [HF.out j hlt, ← HK.out] at g0
      have HS : Hid (∀ u : World, Calls Tryz.prog 74 #[.int .i64 (K : Int)] u fun e w' => e = .returned (.string (markB K)) ∧ Below u.heap.size u w') := fun u => markText_any K u (by omega)
      generalize markB K = mb at HS g0
      go_wp2_with fail
      go_region_with (go_at_call 74; refine (HS.out _).mono ?_; rintro e w1 ⟨rfl, b1⟩; have h0 := cell_on (w' := w1) g0 (by repeat (first | with_reducible exact Below.refl _ _ | with_reducible assumption | with_reducible refine ch_alloc ?_ _ | with_reducible refine Below.drew ?_ | with_reducible refine below_draws _ ?_ | (with_reducible refine Below.setCell ?_ ?_ _; rotate_left; focus (first | with_reducible exact Nat.le_refl _ | (simp; done) | (simp; omega) | (simp at *; omega))) | with_reducible refine ch_trans ?_ (by with_reducible assumption))))
      all_goals
        go_wp2
        go_round
        case rel => exact ⟨j + 1, K + 1, by omega, by go_num, by go_num, by show K + 1 = _; have := HK.out; omega, (by repeat (first | with_reducible exact Below.refl _ _ | with_reducible assumption | with_reducible refine ch_alloc ?_ _ | with_reducible refine Below.drew ?_ | with_reducible refine below_draws _ ?_ | (with_reducible refine Below.setCell ?_ ?_ _; rotate_left; focus (first | with_reducible exact Nat.le_refl _ | (simp; done) | (simp; omega) | (simp at *; omega))) | with_reducible refine ch_trans ?_ (by with_reducible assumption)))⟩
        case measure => simp [intOf]; omega
    · have hlti : (n : Int) ≤ j := by omega
      obtain rfl : j = n := by omega
      have HE : Hid (((k + j : Nat) : Int) = K) := by show _ = _; rw [HK.out]
      go_wp2
      go_ret
      exact ⟨by rw [HE.out]; rfl, (by repeat (first | with_reducible exact Below.refl _ _ | with_reducible assumption | with_reducible refine ch_alloc ?_ _ | with_reducible refine Below.drew ?_ | with_reducible refine below_draws _ ?_ | (with_reducible refine Below.setCell ?_ ?_ _; rotate_left; focus (first | with_reducible exact Nat.le_refl _ | (simp; done) | (simp; omega) | (simp at *; omega))) | with_reducible refine ch_trans ?_ (by with_reducible assumption)))⟩

theorem heldStringS_any (b n cap m : Nat) (T : TypeId) (f : Nat → Value) (k : Nat) (w : World) (hr : w.rowIs b T m f) (hn : n ≤ m) (hl : n ≤ 1048576) (hk : k ≤ 8000000000000000000) (hf : ∀ i, i < n → f i = .string (markB (k + i))) :
    Calls Tryz.prog 93 #[.slice (some ⟨b, 0, none⟩) n cap, .int .i64 k] w fun e w' => e = .returned (.int .i64 ((k + n : Nat) : Int)) ∧ Below w.heap.size w w' :=
  heldStringS_wide b n cap m T f k w hr hn (by omega) hk hf

set_option maxRecDepth 100000 in
set_option maxHeartbeats 2000000 in
/-- laws.heldColS -/
theorem heldColS_any (b n cap m : Nat) (T : TypeId) (f : Nat → Value) (k : Nat) (w : World) (hr : w.rowIs b T m f) (hn : n * 7 ≤ m) (hl : n ≤ 1048576) (hk : k ≤ 8000000000000000000) (hf : ∀ i, i < n * 7 → f i = markC k i) :
    Calls Tryz.prog 92 #[.slice (some ⟨b, 0, none⟩) n cap, .int .i64 k] w fun e w' => e = .returned (.int .i64 ((k + n * 7 : Nat) : Int)) ∧ Below w.heap.size w w' := by
  have HR : Hid (w.rowIs b T m f) := hr
  have HF : Hid (∀ i, i < n * 7 → f i = markC k i) := hf
  clear hr hf
  go_enter Tryz.func92, Tryz.ntmps92
  go_wp2
  go_loopw [1, 5] (fun q i wr => ∃ j K : Nat, j ≤ n ∧ i = .int .i64 j ∧ q = .int .i64 (K : Int) ∧ Hid (K = k + j * 7) ∧ Below w.heap.size w wr) (fun _ i _ => n - (intOf i).toNat)
  case atStart => exact ⟨0, k, Nat.zero_le _, rfl, rfl, by show k = _; omega, (by repeat (first | with_reducible exact Below.refl _ _ | with_reducible assumption | with_reducible refine ch_alloc ?_ _ | with_reducible refine Below.drew ?_ | with_reducible refine below_draws _ ?_ | (with_reducible refine Below.setCell ?_ ?_ _; rotate_left; focus (first | with_reducible exact Nat.le_refl _ | (simp; done) | (simp; omega) | (simp at *; omega))) | with_reducible refine ch_trans ?_ (by with_reducible assumption)))⟩
  case round =>
    obtain ⟨j, K, hj, rfl, rfl, HK, hb⟩ := hrel
    have hKb : K ≤ 8100000000000000000 := by have := HK.out; omega
    by_cases hlt : j < n
    · have hlti : (j : Int) < n := by omega
      obtain ⟨m0, m1, m2, m3, m4, m5, m6⟩ := markC_all k j K HK.out
      have hR := rowIs_on HR.out hb
      have g0 := hR.cell (i := j * 7) (by omega)
      have g1 := hR.cell (i := j * 7 + 1) (by omega)
      have g2 := hR.cell (i := j * 7 + 2) (by omega)
      have g3 := hR.cell (i := j * 7 + 3) (by omega)
      have g4 := hR.cell (i := j * 7 + 4) (by omega)
      have g5 := hR.cell (i := j * 7 + 4 + 1) (by omega)
      have g6 := hR.cell (i := j * 7 + 4 + 2) (by omega)
      rw [HF.out _ (by omega), m0] at g0
      rw [HF.out _ (by omega), m1] at g1
      rw [HF.out _ (by omega), m2] at g2
      rw [HF.out _ (by omega), m3] at g3
      rw [HF.out _ (by omega), m4] at g4
      rw [HF.out _ (by omega), show markC k (j * 7 + 4 + 1) = _ from m5] at g5
      rw [HF.out _ (by omega), show markC k (j * 7 + 4 + 2) = _ from m6] at g6
      have HS : Hid (∀ u : World, Calls Tryz.prog 74 #[.int .i64 (K : Int)] u fun e w' => e = .returned (.string (markB K)) ∧ Below u.heap.size u w') := fun u => markText_any K u (by omega)
      have HS6 : Hid (∀ u : World, Calls Tryz.prog 74 #[.int .i64 ((K : Int) + 1 + 1 + 1 + 1 + 1 + 1)] u fun e w' => e = .returned (.string (markB (K + 6))) ∧ Below u.heap.size u w') := fun u => by
        rw [show ((K : Int) + 1 + 1 + 1 + 1 + 1 + 1) = ((K + 6 : Nat) : Int) by omega]
        exact markText_any (K + 6) u (by omega)
      generalize markB K = mb at HS g0
      generalize markB (K + 6) = mb6 at HS6 g6
      clear m0 m1 m2 m3 m4 m5 m6 hR
      go_wp2_with fail
      go_region_with (go_at_call 74; refine (HS.out _).mono ?_; rintro e w1 ⟨rfl, b1⟩; have h0 := cell_on (w' := w1) g0 (by repeat (first | with_reducible exact Below.refl _ _ | with_reducible assumption | with_reducible refine ch_alloc ?_ _ | with_reducible refine Below.drew ?_ | with_reducible refine below_draws _ ?_ | (with_reducible refine Below.setCell ?_ ?_ _; rotate_left; focus (first | with_reducible exact Nat.le_refl _ | (simp; done) | (simp; omega) | (simp at *; omega))) | with_reducible refine ch_trans ?_ (by with_reducible assumption))))
      all_goals
        have h1 := cell_on (w' := w1) g1 (by repeat (first | with_reducible exact Below.refl _ _ | with_reducible assumption | with_reducible refine ch_alloc ?_ _ | with_reducible refine Below.drew ?_ | with_reducible refine below_draws _ ?_ | (with_reducible refine Below.setCell ?_ ?_ _; rotate_left; focus (first | with_reducible exact Nat.le_refl _ | (simp; done) | (simp; omega) | (simp at *; omega))) | with_reducible refine ch_trans ?_ (by with_reducible assumption)))
        have h2 := cell_on (w' := w1) g2 (by repeat (first | with_reducible exact Below.refl _ _ | with_reducible assumption | with_reducible refine ch_alloc ?_ _ | with_reducible refine Below.drew ?_ | with_reducible refine below_draws _ ?_ | (with_reducible refine Below.setCell ?_ ?_ _; rotate_left; focus (first | with_reducible exact Nat.le_refl _ | (simp; done) | (simp; omega) | (simp at *; omega))) | with_reducible refine ch_trans ?_ (by with_reducible assumption)))
        have h3 := cell_on (w' := w1) g3 (by repeat (first | with_reducible exact Below.refl _ _ | with_reducible assumption | with_reducible refine ch_alloc ?_ _ | with_reducible refine Below.drew ?_ | with_reducible refine below_draws _ ?_ | (with_reducible refine Below.setCell ?_ ?_ _; rotate_left; focus (first | with_reducible exact Nat.le_refl _ | (simp; done) | (simp; omega) | (simp at *; omega))) | with_reducible refine ch_trans ?_ (by with_reducible assumption)))
        have h4 := cell_on (w' := w1) g4 (by repeat (first | with_reducible exact Below.refl _ _ | with_reducible assumption | with_reducible refine ch_alloc ?_ _ | with_reducible refine Below.drew ?_ | with_reducible refine below_draws _ ?_ | (with_reducible refine Below.setCell ?_ ?_ _; rotate_left; focus (first | with_reducible exact Nat.le_refl _ | (simp; done) | (simp; omega) | (simp at *; omega))) | with_reducible refine ch_trans ?_ (by with_reducible assumption)))
        have h5 := cell_on (w' := w1) g5 (by repeat (first | with_reducible exact Below.refl _ _ | with_reducible assumption | with_reducible refine ch_alloc ?_ _ | with_reducible refine Below.drew ?_ | with_reducible refine below_draws _ ?_ | (with_reducible refine Below.setCell ?_ ?_ _; rotate_left; focus (first | with_reducible exact Nat.le_refl _ | (simp; done) | (simp; omega) | (simp at *; omega))) | with_reducible refine ch_trans ?_ (by with_reducible assumption)))
        have h6 := cell_on (w' := w1) g6 (by repeat (first | with_reducible exact Below.refl _ _ | with_reducible assumption | with_reducible refine ch_alloc ?_ _ | with_reducible refine Below.drew ?_ | with_reducible refine below_draws _ ?_ | (with_reducible refine Below.setCell ?_ ?_ _; rotate_left; focus (first | with_reducible exact Nat.le_refl _ | (simp; done) | (simp; omega) | (simp at *; omega))) | with_reducible refine ch_trans ?_ (by with_reducible assumption)))
        go_wp2_with fail
        go_region_with (go_at_call 74; refine (HS6.out _).mono ?_; rintro e w2 ⟨rfl, b2⟩; have i6 := cell_on (w' := w2) g6 (by repeat (first | with_reducible exact Below.refl _ _ | with_reducible assumption | with_reducible refine ch_alloc ?_ _ | with_reducible refine Below.drew ?_ | with_reducible refine below_draws _ ?_ | (with_reducible refine Below.setCell ?_ ?_ _; rotate_left; focus (first | with_reducible exact Nat.le_refl _ | (simp; done) | (simp; omega) | (simp at *; omega))) | with_reducible refine ch_trans ?_ (by with_reducible assumption))))
        all_goals
          go_wp2
          go_round
          case rel => exact ⟨j + 1, K + 7, by omega, by go_num, by go_num, by show K + 7 = _; have := HK.out; omega, (by repeat (first | with_reducible exact Below.refl _ _ | with_reducible assumption | with_reducible refine ch_alloc ?_ _ | with_reducible refine Below.drew ?_ | with_reducible refine below_draws _ ?_ | (with_reducible refine Below.setCell ?_ ?_ _; rotate_left; focus (first | with_reducible exact Nat.le_refl _ | (simp; done) | (simp; omega) | (simp at *; omega))) | with_reducible refine ch_trans ?_ (by with_reducible assumption)))⟩
          case measure => simp [intOf]; omega
    · have hlti : (n : Int) ≤ j := by omega
      obtain rfl : j = n := by omega
      have HE : Hid (((k + j * 7 : Nat) : Int) = K) := by show _ = _; rw [HK.out]
      go_wp2
      go_ret
      exact ⟨by rw [HE.out]; rfl, (by repeat (first | with_reducible exact Below.refl _ _ | with_reducible assumption | with_reducible refine ch_alloc ?_ _ | with_reducible refine Below.drew ?_ | with_reducible refine below_draws _ ?_ | (with_reducible refine Below.setCell ?_ ?_ _; rotate_left; focus (first | with_reducible exact Nat.le_refl _ | (simp; done) | (simp; omega) | (simp at *; omega))) | with_reducible refine ch_trans ?_ (by with_reducible assumption)))⟩
end Go.Proofs.YtiijahoheajppaaGreat
