/- Marks read again: texts, columns. -/
import Derived.Test.YtmkgbdgafjeeianDoorMarkC
namespace Go.Proofs.YtmkgbdgafjeeianDoor
open Go.ChangeShapes Go.WideShapes Go.ChangeAt Go.RowKit

set_option maxRecDepth 100000 in
set_option maxHeartbeats 1000000 in
/-- laws.heldStringS -/
theorem heldStringS_wide (b n cap m : Nat) (T : TypeId) (f : Nat → Value) (k : Nat) (w : World) (hr : w.rowIs b T m f) (hn : n ≤ m) (hl : n ≤ 2000000) (hk : k ≤ 8000000000000000000) (hf : ∀ i, i < n → f i = .string (markB (k + i))) :
    Calls Tryd.prog 8 #[.slice (some ⟨b, 0, none⟩) n cap, .int .i64 k] w fun e w' => e = .returned (.int .i64 ((k + n : Nat) : Int)) ∧ Below w.heap.size w w' := by
  have HR : Hid (w.rowIs b T m f) := hr
  have HF : Hid (∀ i, i < n → f i = .string (markB (k + i))) := hf
  clear hr hf
  go_enter Tryd.func8, Tryd.ntmps8
  go_wp2
  go_loopw [1, 5] (fun q i wr => ∃ j K : Nat, j ≤ n ∧ i = .int .i64 j ∧ q = .int .i64 (K : Int) ∧ Hid (K = k + j) ∧ Below w.heap.size w wr) (fun _ i _ => n - (intOf i).toNat)
  case atStart => exact ⟨0, k, Nat.zero_le _, rfl, rfl, rfl, (by repeat (first | with_reducible exact Below.refl _ _ | with_reducible assumption | with_reducible refine ch_alloc ?_ _ | with_reducible refine Below.drew ?_ | with_reducible refine below_draws _ ?_ | (with_reducible refine Below.setCell ?_ ?_ _; rotate_left; focus (first | with_reducible exact Nat.le_refl _ | (simp; done) | (simp; omega) | (simp at *; omega))) | with_reducible refine ch_trans ?_ (by with_reducible assumption)))⟩
  case round =>
    obtain ⟨j, K, hj, rfl, rfl, HK, hb⟩ := hrel
    have hKb : K ≤ 8100000000000000000 := by have := HK.out; omega
    by_cases hlt : j < n
    · have hlti : (j : Int) < n := by omega
      have g0 := (rowIs_on HR.out hb).cell (i := j) (by omega)
      rw [HF.out j hlt, ← HK.out] at g0
      have HS : Hid (∀ u : World, Calls Tryd.prog 11 #[.int .i64 (K : Int)] u fun e w' => e = .returned (.string (markB K)) ∧ Below u.heap.size u w') := fun u => markText_any K u (by omega)
      generalize markB K = mb at HS g0
      go_wp2_with fail
      go_region_with (go_at_call 11; refine (HS.out _).mono ?_; rintro e w1 ⟨rfl, b1⟩; have h0 := cell_on (w' := w1) g0 (by repeat (first | with_reducible exact Below.refl _ _ | with_reducible assumption | with_reducible refine ch_alloc ?_ _ | with_reducible refine Below.drew ?_ | with_reducible refine below_draws _ ?_ | (with_reducible refine Below.setCell ?_ ?_ _; rotate_left; focus (first | with_reducible exact Nat.le_refl _ | (simp; done) | (simp; omega) | (simp at *; omega))) | with_reducible refine ch_trans ?_ (by with_reducible assumption))))
      all_goals
        go_wp2
        go_round
        case rel => exact ⟨j + 1, K + 1, by omega, by go_num, by go_num, by show K + 1 = _; have := HK.out; omega, (by repeat (first | with_reducible exact Below.refl _ _ | with_reducible assumption | with_reducible refine ch_alloc ?_ _ | with_reducible refine Below.drew ?_ | with_reducible refine below_draws _ ?_ | (with_reducible refine Below.setCell ?_ ?_ _; rotate_left; focus (first | with_reducible exact Nat.le_refl _ | (simp; done) | (simp; omega) | (simp at *; omega))) | with_reducible refine ch_trans ?_ (by with_reducible assumption)))⟩
        case measure => simp [intOf]; omega
    · have hlti : (n : Int) ≤ j := by omega
      obtain rfl : j = n := by omega
      have HE : Hid (((k + j : Nat) : Int) = K) := by show _ = _; rw [HK.out]
      go_wp2
      go_ret
      exact ⟨by rw [HE.out]; rfl, (by repeat (first | with_reducible exact Below.refl _ _ | with_reducible assumption | with_reducible refine ch_alloc ?_ _ | with_reducible refine Below.drew ?_ | with_reducible refine below_draws _ ?_ | (with_reducible refine Below.setCell ?_ ?_ _; rotate_left; focus (first | with_reducible exact Nat.le_refl _ | (simp; done) | (simp; omega) | (simp at *; omega))) | with_reducible refine ch_trans ?_ (by with_reducible assumption)))⟩

theorem heldStringS_any (b n cap m : Nat) (T : TypeId) (f : Nat → Value) (k : Nat) (w : World) (hr : w.rowIs b T m f) (hn : n ≤ m) (hl : n ≤ 1048576) (hk : k ≤ 8000000000000000000) (hf : ∀ i, i < n → f i = .string (markB (k + i))) :
    Calls Tryd.prog 8 #[.slice (some ⟨b, 0, none⟩) n cap, .int .i64 k] w fun e w' => e = .returned (.int .i64 ((k + n : Nat) : Int)) ∧ Below w.heap.size w w' :=
  heldStringS_wide b n cap m T f k w hr hn (by omega) hk hf

end Go.Proofs.YtmkgbdgafjeeianDoor
