/- Whether a column is right: the given ColOk. -/
import Derived.Test.YtiijahoheajppaaCl
namespace Go.Proofs.Ytiijahoheajppaa
open Go.ChangeShapes Go.WideShapes Go.ChangeAt Go.RowKit

/-- A column without a default. -/
def Cl.null (c : Cl) : Bool := c.dt == 0 && (c.dn == 0 && c.ds.toList.isEmpty)
/-- Whether a column is right. -/
def Cl.ok (c : Cl) : Bool := wordB c.name && (decide (1 ≤ c.ty) && decide (c.ty ≤ 3)) && (if c.has = false then c.null else okB c.dt c.dn c.ds && (c.null || c.dt == c.ty) && !(c.null && c.nt))
theorem Cl.null_cases (c : Cl) : ((c.dt == 0) = false) ∨ (c.dt = 0 ∧ (c.dn == 0) = false) ∨ (c.dt = 0 ∧ c.dn = 0 ∧ c.ds.toList.isEmpty = false) ∨ (c.dt = 0 ∧ c.dn = 0 ∧ c.ds.toList.isEmpty = true) := by
  cases h1 : c.dt == 0
  · exact Or.inl rfl
  · have h1 : c.dt = 0 := by simpa using h1
    cases h2 : c.dn == 0
    · exact Or.inr (Or.inl ⟨h1, rfl⟩)
    · have h2 : c.dn = 0 := by simpa using h2
      cases h3 : c.ds.toList.isEmpty
      · exact Or.inr (Or.inr (Or.inl ⟨h1, h2, rfl⟩))
      · exact Or.inr (Or.inr (Or.inr ⟨h1, h2, rfl⟩))
theorem ret_b {a b : Bool} (h : a = b) : Ending.returned (.bool a) = .returned (.bool b) := by rw [h]

set_option maxRecDepth 100000 in
set_option maxHeartbeats 4000000 in
/-- spec.ColOk -/
theorem colOk_spec (c : Cl) (w : World) (hn : c.name.size ≤ maxLen) : Calls Try.prog 57 #[c.v] w fun e w' => e = .returned (.bool c.ok) ∧ Below w.heap.size w w' := by
  have HW : Hid (∀ w : World, Calls Try.prog 56 #[.string c.name] w fun e w' => e = .returned (.bool (wordB c.name)) ∧ w' = w) := fun w => word_spec c.name w hn
  have hN := c.null_cases
  obtain ⟨name, ty, nt, has, dt, dn, ds⟩ := c
  simp only at HW hN
  cases hw : wordB name
  · have HR : Hid (Cl.ok ⟨name, ty, nt, has, dt, dn, ds⟩ = false) := by show _ = _; simp [Cl.ok, hw]
    rw [hw] at HW
    clear hw
    rcases hN with d1 | ⟨rfl, d2⟩ | ⟨rfl, rfl, d3⟩ | ⟨rfl, rfl, d3⟩
    all_goals
      go_enter Try.func57, Try.ntmps57
      go_wp2_with (first | (go_at_call 56; refine (HW.out _).mono ?_; rintro e w' ⟨rfl, hw⟩; subst w') | (go_at_call 71; refine (ok_spec _ _ _ _).mono ?_; rw [HK.out]; rintro e w' ⟨rfl, hw⟩; subst w'))
      go_ret
      exact ⟨ret_b HR.out.symm, by repeat (first | exact Below.refl _ _ | refine Below.drew ?_ | refine below_draws _ ?_ | (refine Below.alloc ?_ (by first | (simp; done) | (simp; omega) | omega) _))⟩
  rw [hw] at HW
  by_cases h1 : ty < 1
  · have HR : Hid (Cl.ok ⟨name, ty, nt, has, dt, dn, ds⟩ = false) := by show _ = _; have : ¬ 1 ≤ ty := by omega
                                                                        simp [Cl.ok, this]
    clear hw
    rcases hN with d1 | ⟨rfl, d2⟩ | ⟨rfl, rfl, d3⟩ | ⟨rfl, rfl, d3⟩
    all_goals
      go_enter Try.func57, Try.ntmps57
      go_wp2_with (first | (go_at_call 56; refine (HW.out _).mono ?_; rintro e w' ⟨rfl, hw⟩; subst w') | (go_at_call 71; refine (ok_spec _ _ _ _).mono ?_; rw [HK.out]; rintro e w' ⟨rfl, hw⟩; subst w'))
      go_ret
      exact ⟨ret_b HR.out.symm, by repeat (first | exact Below.refl _ _ | refine Below.drew ?_ | refine below_draws _ ?_ | (refine Below.alloc ?_ (by first | (simp; done) | (simp; omega) | omega) _))⟩
  by_cases h3 : 3 < ty
  · have HR : Hid (Cl.ok ⟨name, ty, nt, has, dt, dn, ds⟩ = false) := by show _ = _; have : ¬ ty ≤ 3 := by omega
                                                                        simp [Cl.ok, this]
    clear hw
    rcases hN with d1 | ⟨rfl, d2⟩ | ⟨rfl, rfl, d3⟩ | ⟨rfl, rfl, d3⟩
    all_goals
      go_enter Try.func57, Try.ntmps57
      go_wp2_with (first | (go_at_call 56; refine (HW.out _).mono ?_; rintro e w' ⟨rfl, hw⟩; subst w') | (go_at_call 71; refine (ok_spec _ _ _ _).mono ?_; rw [HK.out]; rintro e w' ⟨rfl, hw⟩; subst w'))
      go_ret
      exact ⟨ret_b HR.out.symm, by repeat (first | exact Below.refl _ _ | refine Below.drew ?_ | refine below_draws _ ?_ | (refine Below.alloc ?_ (by first | (simp; done) | (simp; omega) | omega) _))⟩
  have e1 : decide (1 ≤ ty) = true := by simp; omega
  have e3 : decide (ty ≤ 3) = true := by simp; omega
  cases has
  · have HR0 : Cl.ok ⟨name, ty, nt, false, dt, dn, ds⟩ = Cl.null ⟨name, ty, nt, false, dt, dn, ds⟩ := by simp only [Cl.ok, hw, e1, e3]; simp
    clear hw e1 e3
    rcases hN with d1 | ⟨rfl, d2⟩ | ⟨rfl, rfl, d3⟩ | ⟨rfl, rfl, d3⟩
    · have HR : Hid (_ = false) := HR0.trans (by simp only [Cl.null, d1]; simp)
      clear HR0
      go_enter Try.func57, Try.ntmps57
      go_wp2_with (first | (go_at_call 56; refine (HW.out _).mono ?_; rintro e w' ⟨rfl, hw⟩; subst w') | (go_at_call 71; refine (ok_spec _ _ _ _).mono ?_; rw [HK.out]; rintro e w' ⟨rfl, hw⟩; subst w'))
      go_ret
      exact ⟨ret_b HR.out.symm, by repeat (first | exact Below.refl _ _ | refine Below.drew ?_ | refine below_draws _ ?_ | (refine Below.alloc ?_ (by first | (simp; done) | (simp; omega) | omega) _))⟩
    · have HR : Hid (_ = false) := HR0.trans (by simp only [Cl.null, d2]; simp)
      clear HR0
      go_enter Try.func57, Try.ntmps57
      go_wp2_with (first | (go_at_call 56; refine (HW.out _).mono ?_; rintro e w' ⟨rfl, hw⟩; subst w') | (go_at_call 71; refine (ok_spec _ _ _ _).mono ?_; rw [HK.out]; rintro e w' ⟨rfl, hw⟩; subst w'))
      go_ret
      exact ⟨ret_b HR.out.symm, by repeat (first | exact Below.refl _ _ | refine Below.drew ?_ | refine below_draws _ ?_ | (refine Below.alloc ?_ (by first | (simp; done) | (simp; omega) | omega) _))⟩
    · have HR : Hid (_ = false) := HR0.trans (by simp only [Cl.null, d3]; simp)
      clear HR0
      go_enter Try.func57, Try.ntmps57
      go_wp2_with (first | (go_at_call 56; refine (HW.out _).mono ?_; rintro e w' ⟨rfl, hw⟩; subst w') | (go_at_call 71; refine (ok_spec _ _ _ _).mono ?_; rw [HK.out]; rintro e w' ⟨rfl, hw⟩; subst w'))
      go_ret
      exact ⟨ret_b HR.out.symm, by repeat (first | exact Below.refl _ _ | refine Below.drew ?_ | refine below_draws _ ?_ | (refine Below.alloc ?_ (by first | (simp; done) | (simp; omega) | omega) _))⟩
    · have HR : Hid (_ = true) := HR0.trans (by simp only [Cl.null, d3]; simp)
      clear HR0
      go_enter Try.func57, Try.ntmps57
      go_wp2_with (first | (go_at_call 56; refine (HW.out _).mono ?_; rintro e w' ⟨rfl, hw⟩; subst w') | (go_at_call 71; refine (ok_spec _ _ _ _).mono ?_; rw [HK.out]; rintro e w' ⟨rfl, hw⟩; subst w'))
      go_ret
      exact ⟨ret_b HR.out.symm, by repeat (first | exact Below.refl _ _ | refine Below.drew ?_ | refine below_draws _ ?_ | (refine Below.alloc ?_ (by first | (simp; done) | (simp; omega) | omega) _))⟩
  have HR0 : Cl.ok ⟨name, ty, nt, true, dt, dn, ds⟩ = (okB dt dn ds && (Cl.null ⟨name, ty, nt, true, dt, dn, ds⟩ || dt == ty) && !(Cl.null ⟨name, ty, nt, true, dt, dn, ds⟩ && nt)) := by simp only [Cl.ok, hw, e1, e3]; simp
  clear hw e1 e3
  cases hk : okB dt dn ds
  · have HK : Hid (okB dt dn ds = _) := hk
    have HR : Hid (_ = false) := HR0.trans (by rw [hk]; simp)
    clear HR0 hk
    rcases hN with d1 | ⟨rfl, d2⟩ | ⟨rfl, rfl, d3⟩ | ⟨rfl, rfl, d3⟩
    all_goals
      go_enter Try.func57, Try.ntmps57
      go_wp2_with (first | (go_at_call 56; refine (HW.out _).mono ?_; rintro e w' ⟨rfl, hw⟩; subst w') | (go_at_call 71; refine (ok_spec _ _ _ _).mono ?_; rw [HK.out]; rintro e w' ⟨rfl, hw⟩; subst w'))
      go_ret
      exact ⟨ret_b HR.out.symm, by repeat (first | exact Below.refl _ _ | refine Below.drew ?_ | refine below_draws _ ?_ | (refine Below.alloc ?_ (by first | (simp; done) | (simp; omega) | omega) _))⟩
  have HK : Hid (okB dt dn ds = _) := hk
  rw [hk] at HR0
  clear hk
  rcases hN with d1 | ⟨rfl, d2⟩ | ⟨rfl, rfl, d3⟩ | ⟨rfl, rfl, d3⟩
  · cases ht : dt == ty
    all_goals
      have HR : Hid (_ = _) := HR0.trans (by simp only [Cl.null, d1, ht]; simp; exact rfl)
      clear HR0
      go_enter Try.func57, Try.ntmps57
      go_wp2_with (first | (go_at_call 56; refine (HW.out _).mono ?_; rintro e w' ⟨rfl, hw⟩; subst w') | (go_at_call 71; refine (ok_spec _ _ _ _).mono ?_; rw [HK.out]; rintro e w' ⟨rfl, hw⟩; subst w'))
      go_ret
      exact ⟨ret_b HR.out.symm, by repeat (first | exact Below.refl _ _ | refine Below.drew ?_ | refine below_draws _ ?_ | (refine Below.alloc ?_ (by first | (simp; done) | (simp; omega) | omega) _))⟩
  · cases ht : (0 : Int) == ty
    all_goals
      have HR : Hid (_ = _) := HR0.trans (by simp only [Cl.null, d2, ht]; simp; exact rfl)
      clear HR0
      go_enter Try.func57, Try.ntmps57
      go_wp2_with (first | (go_at_call 56; refine (HW.out _).mono ?_; rintro e w' ⟨rfl, hw⟩; subst w') | (go_at_call 71; refine (ok_spec _ _ _ _).mono ?_; rw [HK.out]; rintro e w' ⟨rfl, hw⟩; subst w'))
      go_ret
      exact ⟨ret_b HR.out.symm, by repeat (first | exact Below.refl _ _ | refine Below.drew ?_ | refine below_draws _ ?_ | (refine Below.alloc ?_ (by first | (simp; done) | (simp; omega) | omega) _))⟩
  · cases ht : (0 : Int) == ty
    all_goals
      have HR : Hid (_ = _) := HR0.trans (by simp only [Cl.null, d3, ht]; simp; exact rfl)
      clear HR0
      go_enter Try.func57, Try.ntmps57
      go_wp2_with (first | (go_at_call 56; refine (HW.out _).mono ?_; rintro e w' ⟨rfl, hw⟩; subst w') | (go_at_call 71; refine (ok_spec _ _ _ _).mono ?_; rw [HK.out]; rintro e w' ⟨rfl, hw⟩; subst w'))
      go_ret
      exact ⟨ret_b HR.out.symm, by repeat (first | exact Below.refl _ _ | refine Below.drew ?_ | refine below_draws _ ?_ | (refine Below.alloc ?_ (by first | (simp; done) | (simp; omega) | omega) _))⟩
  · cases nt
    all_goals
      have HR : Hid (_ = _) := HR0.trans (by simp only [Cl.null, d3]; simp; exact rfl)
      clear HR0
      go_enter Try.func57, Try.ntmps57
      go_wp2_with (first | (go_at_call 56; refine (HW.out _).mono ?_; rintro e w' ⟨rfl, hw⟩; subst w') | (go_at_call 71; refine (ok_spec _ _ _ _).mono ?_; rw [HK.out]; rintro e w' ⟨rfl, hw⟩; subst w'))
      go_ret
      exact ⟨ret_b HR.out.symm, by repeat (first | exact Below.refl _ _ | refine Below.drew ?_ | refine below_draws _ ?_ | (refine Below.alloc ?_ (by first | (simp; done) | (simp; omega) | omega) _))⟩
end Go.Proofs.Ytiijahoheajppaa
