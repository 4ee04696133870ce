/- Whether a value may stand in a column, given and landed. -/
import Derived.Test.YtiijahoheajppaaVs
import Derived.Test.YtiijahoheajppaaValOk
namespace Go.Proofs.Ytiijahoheajppaa
open Go.ChangeShapes Go.WideShapes Go.ChangeAt Go.RowKit

/-- Whether a value may stand in a column. -/
def fitsB (c : Cl) (v : Vc) : Bool := okB v.ty v.n v.s && (if v.ty = 0 then !c.nt else v.ty == c.ty)

set_option maxRecDepth 100000 in
/-- spec.l03Fits -/
theorem fits_spec (c : Cl) (v : Vc) (w : World) : Calls Try.prog 67 #[c.v, v.v] w fun e w' => e = .returned (.bool (fitsB c v)) ∧ Below w.heap.size w w' := by
  obtain ⟨ty, n, s⟩ := v
  have HS : Hid (∀ w : World, Calls Try.prog 71 #[V ty n s] w fun e w' => e = .returned (.bool (okB ty n s)) ∧ w' = w.alloc (cellsV ty n s)) := fun w => ok_spec ty n s w
  have HD : Hid (fitsB c ⟨ty, n, s⟩ = (okB ty n s && (if ty = 0 then !c.nt else ty == c.ty))) := rfl
  generalize okB ty n s = q at HS HD
  generalize fitsB c ⟨ty, n, s⟩ = R at HD ⊢
  by_cases h0 : ty = 0
  · subst h0
    cases q <;> cases hn : c.nt
    all_goals
      have HR := HD.out
      rw [if_pos rfl, hn] at HR
      have HR' : Hid (R = _) := HR
      clear HR HD
      go_enter Try.func67, Try.ntmps67
      go_wp2_with (go_at_call 71; refine (HS.out _).mono ?_; rintro e w1 ⟨rfl, rfl⟩)
      go_ret
      exact ⟨by rw [HR'.out]; rfl, (by repeat (first | with_reducible exact Below.refl _ _ | with_reducible assumption | with_reducible refine ch_alloc ?_ _ | with_reducible refine Below.drew ?_ | with_reducible refine below_draws _ ?_ | (with_reducible refine Below.setCell ?_ ?_ _; rotate_left; focus (first | with_reducible exact Nat.le_refl _ | (simp; done) | (simp; omega) | (simp at *; omega))) | with_reducible refine ch_trans ?_ (by with_reducible assumption)))⟩
  · have h0' : (ty == 0) = false := by simpa using h0
    cases q <;> cases ht : ty == c.ty
    all_goals
      have HR := HD.out
      rw [if_neg h0, ht] at HR
      have HR' : Hid (R = _) := HR
      clear HR HD
      go_enter Try.func67, Try.ntmps67
      go_wp2_with (go_at_call 71; refine (HS.out _).mono ?_; rintro e w1 ⟨rfl, rfl⟩)
      go_ret
      exact ⟨by rw [HR'.out]; rfl, (by repeat (first | with_reducible exact Below.refl _ _ | with_reducible assumption | with_reducible refine ch_alloc ?_ _ | with_reducible refine Below.drew ?_ | with_reducible refine below_draws _ ?_ | (with_reducible refine Below.setCell ?_ ?_ _; rotate_left; focus (first | with_reducible exact Nat.le_refl _ | (simp; done) | (simp; omega) | (simp at *; omega))) | with_reducible refine ch_trans ?_ (by with_reducible assumption)))⟩

set_option maxRecDepth 100000 in
/-- impl.mayStandIn -/
theorem fits_impl (c : Cl) (v : Vc) (w : World) : Calls Try.prog 70 #[c.v, v.v] w fun e w' => e = .returned (.bool (fitsB c v)) ∧ Below w.heap.size w w' := by
  obtain ⟨ty, n, s⟩ := v
  have HS : Hid (∀ w : World, Calls Try.prog 72 #[V ty n s] w fun e w' => e = .returned (.bool (okB ty n s)) ∧ ∃ k, w' = ((w.alloc (cellsV ty n s)).alloc (cellsV ty n s)).drewN k) := fun w => ok_impl ty n s w
  have HD : Hid (fitsB c ⟨ty, n, s⟩ = (okB ty n s && (if ty = 0 then !c.nt else ty == c.ty))) := rfl
  generalize okB ty n s = q at HS HD
  generalize fitsB c ⟨ty, n, s⟩ = R at HD ⊢
  by_cases h0 : ty = 0
  · subst h0
    cases q <;> cases hn : c.nt
    all_goals
      have HR := HD.out
      rw [if_pos rfl, hn] at HR
      have HR' : Hid (R = _) := HR
      clear HR HD
      go_enter Try.func70, Try.ntmps70
      go_wp2_with (go_at_call 72; refine (HS.out _).mono ?_; rintro e w1 ⟨rfl, k, rfl⟩)
      go_ret
      exact ⟨by rw [HR'.out]; rfl, (by repeat (first | with_reducible exact Below.refl _ _ | with_reducible assumption | with_reducible refine ch_alloc ?_ _ | with_reducible refine Below.drew ?_ | with_reducible refine below_draws _ ?_ | (with_reducible refine Below.setCell ?_ ?_ _; rotate_left; focus (first | with_reducible exact Nat.le_refl _ | (simp; done) | (simp; omega) | (simp at *; omega))) | with_reducible refine ch_trans ?_ (by with_reducible assumption)))⟩
  · have h0' : (ty == 0) = false := by simpa using h0
    cases q <;> cases ht : ty == c.ty
    all_goals
      have HR := HD.out
      rw [if_neg h0, ht] at HR
      have HR' : Hid (R = _) := HR
      clear HR HD
      go_enter Try.func70, Try.ntmps70
      go_wp2_with (go_at_call 72; refine (HS.out _).mono ?_; rintro e w1 ⟨rfl, k, rfl⟩)
      go_ret
      exact ⟨by rw [HR'.out]; rfl, (by repeat (first | with_reducible exact Below.refl _ _ | with_reducible assumption | with_reducible refine ch_alloc ?_ _ | with_reducible refine Below.drew ?_ | with_reducible refine below_draws _ ?_ | (with_reducible refine Below.setCell ?_ ?_ _; rotate_left; focus (first | with_reducible exact Nat.le_refl _ | (simp; done) | (simp; omega) | (simp at *; omega))) | with_reducible refine ch_trans ?_ (by with_reducible assumption)))⟩
end Go.Proofs.Ytiijahoheajppaa
