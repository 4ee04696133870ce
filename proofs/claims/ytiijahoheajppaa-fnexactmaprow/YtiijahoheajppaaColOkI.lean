/- Whether a column is right: the landed ColOk. -/
import Derived.Test.YtiijahoheajppaaColOkS
import Derived.Test.YtiijahoheajppaaValOk
namespace Go.Proofs.Ytiijahoheajppaa
open Go.ChangeShapes Go.WideShapes Go.ChangeAt Go.RowKit

theorem Cl.ok_null (c : Cl) (hw : wordB c.name = true) (h1 : ¬ c.ty < 1) (h3 : ¬ 3 < c.ty) (hn : c.null = true) : c.ok = (!c.nt || !c.has) := by
  have e1 : decide (1 ≤ c.ty) = true := by simp; omega
  have e3 : decide (c.ty ≤ 3) = true := by simp; omega
  have hk : okB c.dt c.dn c.ds = true := by
    unfold Cl.null at hn
    rw [Bool.and_eq_true, Bool.and_eq_true] at hn
    have hd : c.dt = 0 := by simpa using hn.1
    rw [okB, if_pos hd, hn.2.1, hn.2.2]; rfl
  simp only [Cl.ok, hw, e1, e3, hn, hk]
  cases c.has <;> cases c.nt <;> rfl
theorem Cl.ok_not (c : Cl) (hw : wordB c.name = true) (h1 : ¬ c.ty < 1) (h3 : ¬ 3 < c.ty) (hn : c.null = false) : c.ok = (c.has && (c.dt == c.ty && okB c.dt c.dn c.ds)) := by
  have e1 : decide (1 ≤ c.ty) = true := by simp; omega
  have e3 : decide (c.ty ≤ 3) = true := by simp; omega
  simp only [Cl.ok, hw, e1, e3, hn]
  cases c.has <;> cases c.dt == c.ty <;> cases okB c.dt c.dn c.ds <;> rfl

set_option maxRecDepth 100000 in
set_option maxHeartbeats 4000000 in
/-- impl.ColOk -/
theorem colOk_impl (c : Cl) (w : World) (hn : c.name.size ≤ maxLen) : Calls Try.prog 60 #[c.v] w fun e w' => e = .returned (.bool c.ok) ∧ Below w.heap.size w w' := by
  have HW : Hid (∀ w : World, Calls Try.prog 59 #[.string c.name] w fun e w' => e = .returned (.bool (wordB c.name)) ∧ w' = w) := fun w => word_impl c.name w hn
  have hN := c.null_cases
  have H0 := c.ok_null
  have H1 := c.ok_not
  obtain ⟨name, ty, nt, has, dt, dn, ds⟩ := c
  simp only at HW hN H0 H1
  cases hw : wordB name
  · have HR : Hid (Cl.ok ⟨name, ty, nt, has, dt, dn, ds⟩ = false) := by show _ = _; simp [Cl.ok, hw]
    rw [hw] at HW
    clear hw H0 H1 hN
    go_enter Try.func60, Try.ntmps60
    go_wp2_with (go_at_call 59; refine (HW.out _).mono ?_; rintro e w' ⟨rfl, hw⟩; subst w')
    go_ret
    exact ⟨ret_b HR.out.symm, by repeat (first | exact Below.refl _ _ | refine Below.drew ?_ | refine below_draws _ ?_ | (refine Below.alloc ?_ (by first | (simp; done) | (simp; omega) | omega) _))⟩
  by_cases h1 : ty < 1
  · have HR : Hid (Cl.ok ⟨name, ty, nt, has, dt, dn, ds⟩ = false) := by show _ = _; have : ¬ 1 ≤ ty := by omega
                                                                        simp [Cl.ok, this]
    rw [hw] at HW
    clear hw H0 H1 hN
    go_enter Try.func60, Try.ntmps60
    go_wp2_with (go_at_call 59; refine (HW.out _).mono ?_; rintro e w' ⟨rfl, hw⟩; subst w')
    go_ret
    exact ⟨ret_b HR.out.symm, by repeat (first | exact Below.refl _ _ | refine Below.drew ?_ | refine below_draws _ ?_ | (refine Below.alloc ?_ (by first | (simp; done) | (simp; omega) | omega) _))⟩
  by_cases h3 : 3 < ty
  · have HR : Hid (Cl.ok ⟨name, ty, nt, has, dt, dn, ds⟩ = false) := by show _ = _; have : ¬ ty ≤ 3 := by omega
                                                                        simp [Cl.ok, this]
    rw [hw] at HW
    clear hw H0 H1 hN
    go_enter Try.func60, Try.ntmps60
    go_wp2_with (go_at_call 59; refine (HW.out _).mono ?_; rintro e w' ⟨rfl, hw⟩; subst w')
    go_ret
    exact ⟨ret_b HR.out.symm, by repeat (first | exact Below.refl _ _ | refine Below.drew ?_ | refine below_draws _ ?_ | (refine Below.alloc ?_ (by first | (simp; done) | (simp; omega) | omega) _))⟩
  have H0 := H0 hw h1 h3
  have H1 := H1 hw h1 h3
  rw [hw] at HW
  clear hw
  rcases hN with d1 | ⟨rfl, d2⟩ | ⟨rfl, rfl, d3⟩ | ⟨rfl, rfl, d3⟩
  · have H1 := H1 (by simp only [Cl.null, d1]; simp)
    clear H0
    cases has
    · have HR : Hid (_ = false) := H1
      clear H1
      go_enter Try.func60, Try.ntmps60
      go_wp2_with (go_at_call 59; refine (HW.out _).mono ?_; rintro e w' ⟨rfl, hw⟩; subst w')
      go_ret
      exact ⟨ret_b HR.out.symm, by repeat (first | exact Below.refl _ _ | refine Below.drew ?_ | refine below_draws _ ?_ | (refine Below.alloc ?_ (by first | (simp; done) | (simp; omega) | omega) _))⟩
    cases ht : dt == ty
    · have HR : Hid (_ = false) := H1.trans (by rw [ht]; rfl)
      clear H1
      go_enter Try.func60, Try.ntmps60
      go_wp2_with (go_at_call 59; refine (HW.out _).mono ?_; rintro e w' ⟨rfl, hw⟩; subst w')
      go_ret
      exact ⟨ret_b HR.out.symm, by repeat (first | exact Below.refl _ _ | refine Below.drew ?_ | refine below_draws _ ?_ | (refine Below.alloc ?_ (by first | (simp; done) | (simp; omega) | omega) _))⟩
    · have HR : Hid (_ = okB dt dn ds) := H1.trans (by rw [ht]; rfl)
      clear H1
      go_enter Try.func60, Try.ntmps60
      go_wp2_with (first | (go_at_call 59; refine (HW.out _).mono ?_; rintro e w' ⟨rfl, hw⟩; subst w') | (go_at_call 72; refine (ok_impl _ _ _ _).mono ?_; rintro e w' ⟨rfl, k, hw⟩; subst w'))
      go_ret
      exact ⟨ret_b HR.out.symm, by repeat (first | exact Below.refl _ _ | refine Below.drew ?_ | refine below_draws _ ?_ | (refine Below.alloc ?_ (by first | (simp; done) | (simp; omega) | omega) _))⟩
  · have ht : ((0 : Int) == ty) = false := by simp; omega
    have HR : Hid (_ = false) := (H1 (by simp only [Cl.null, d2]; simp)).trans (by simp [ht])
    clear H0 H1
    cases has
    all_goals
      go_enter Try.func60, Try.ntmps60
      go_wp2_with (first | (go_at_call 59; refine (HW.out _).mono ?_; rintro e w' ⟨rfl, hw⟩; subst w') | (go_at_call 72; refine (ok_impl _ _ _ _).mono ?_; rintro e w' ⟨rfl, k, hw⟩; subst w'))
      go_ret
      exact ⟨ret_b HR.out.symm, by repeat (first | exact Below.refl _ _ | refine Below.drew ?_ | refine below_draws _ ?_ | (refine Below.alloc ?_ (by first | (simp; done) | (simp; omega) | omega) _))⟩
  · have ht : ((0 : Int) == ty) = false := by simp; omega
    have HR : Hid (_ = false) := (H1 (by simp only [Cl.null, d3]; simp)).trans (by simp [ht])
    clear H0 H1
    cases has
    all_goals
      go_enter Try.func60, Try.ntmps60
      go_wp2_with (first | (go_at_call 59; refine (HW.out _).mono ?_; rintro e w' ⟨rfl, hw⟩; subst w') | (go_at_call 72; refine (ok_impl _ _ _ _).mono ?_; rintro e w' ⟨rfl, k, hw⟩; subst w'))
      go_ret
      exact ⟨ret_b HR.out.symm, by repeat (first | exact Below.refl _ _ | refine Below.drew ?_ | refine below_draws _ ?_ | (refine Below.alloc ?_ (by first | (simp; done) | (simp; omega) | omega) _))⟩
  · have H0 := H0 (by simp only [Cl.null, d3]; simp)
    clear H1
    cases nt <;> cases has
    all_goals
      have HR : Hid (_ = _) := H0
      clear H0
      go_enter Try.func60, Try.ntmps60
      go_wp2_with (first | (go_at_call 59; refine (HW.out _).mono ?_; rintro e w' ⟨rfl, hw⟩; subst w') | (go_at_call 72; refine (ok_impl _ _ _ _).mono ?_; rintro e w' ⟨rfl, k, hw⟩; subst w'))
      go_ret
      exact ⟨ret_b HR.out.symm, by repeat (first | exact Below.refl _ _ | refine Below.drew ?_ | refine below_draws _ ?_ | (refine Below.alloc ?_ (by first | (simp; done) | (simp; omega) | omega) _))⟩
end Go.Proofs.Ytiijahoheajppaa
