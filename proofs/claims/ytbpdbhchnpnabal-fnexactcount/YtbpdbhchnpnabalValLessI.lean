/- The order of values, and the contract of the landed ValLess. -/
import Derived.Test.YtbpdbhchnpnabalValOk
namespace Go.Proofs.Ytbpdbhchnpnabal
open Go.ChangeShapes Go.WideShapes Go.ChangeAt Go.RowKit

/-- The order of values. -/
def lessB (t1 n1 : Int) (s1 : ByteArray) (t2 n2 : Int) (s2 : ByteArray) : Bool :=
  if okB t1 n1 s1 = true ∧ okB t2 n2 s2 = true then
    (if t1 = t2 then decide (n1 < n2) || (n1 == n2 && Op.bytesLess s1.toList s2.toList) else decide (t1 < t2))
  else false

theorem less_impl (t1 n1 : Int) (s1 : ByteArray) (t2 n2 : Int) (s2 : ByteArray) (w : World) :
    Calls Try.prog 107 #[V t1 n1 s1, V t2 n2 s2] w fun e w' => e = .returned (.bool (lessB t1 n1 s1 t2 n2 s2)) ∧ Below w.heap.size w w' := by
  cases hk1 : okB t1 n1 s1
  · have HK1 : Hid (okB t1 n1 s1 = _) := hk1
    clear hk1
    go_enter Try.func107, Try.ntmps107
    go_wp2_with (go_at_call 108; refine (ok_impl _ _ _ _).mono ?_; rw [HK1.out]; rintro e w' ⟨rfl, k, rfl⟩)
    go_ret
    exact ⟨by simp [lessB, HK1.out], by repeat (first | exact Below.refl _ _ | refine below_draws _ ?_ | (refine Below.alloc ?_ (by simp <;> omega) _))⟩
  cases hk2 : okB t2 n2 s2
  · have HK1 : Hid (okB t1 n1 s1 = _) := hk1
    have HK2 : Hid (okB t2 n2 s2 = _) := hk2
    clear hk1 hk2
    go_enter Try.func107, Try.ntmps107
    go_wp2_with fail
    refine (ok_impl _ _ _ _).mono ?_
    rw [HK1.out]; rintro e w' ⟨rfl, k, rfl⟩
    go_wp2_with fail
    refine (ok_impl _ _ _ _).mono ?_
    rw [HK2.out]; rintro e w' ⟨rfl, k2, rfl⟩
    go_wp2
    go_ret
    exact ⟨by simp [lessB, HK2.out], by repeat (first | exact Below.refl _ _ | refine below_draws _ ?_ | (refine Below.alloc ?_ (by simp <;> omega) _))⟩
  have HK1 : Hid (okB t1 n1 s1 = _) := hk1
  have HK2 : Hid (okB t2 n2 s2 = _) := hk2
  clear hk1 hk2
  by_cases ht : t1 = t2
  · subst ht
    cases heq : n1 != n2
    all_goals
      go_enter Try.func107, Try.ntmps107
      go_wp2_with fail
      refine (ok_impl _ _ _ _).mono ?_
      rw [HK1.out]; rintro e w' ⟨rfl, k, rfl⟩
      go_wp2_with fail
      refine (ok_impl _ _ _ _).mono ?_
      rw [HK2.out]; rintro e w' ⟨rfl, k2, rfl⟩
      go_wp2
      go_ret
      exact ⟨by simp_all [lessB, Hid], by repeat (first | exact Below.refl _ _ | refine below_draws _ ?_ | (refine Below.alloc ?_ (by simp <;> omega) _))⟩
  · have hne : (t1 != t2) = true := by simp [ht]
    have HT := (show Hid (¬ t1 = t2) from ht)
    clear ht
    go_enter Try.func107, Try.ntmps107
    go_wp2_with fail
    refine (ok_impl _ _ _ _).mono ?_
    rw [HK1.out]; rintro e w' ⟨rfl, k, rfl⟩
    go_wp2_with fail
    refine (ok_impl _ _ _ _).mono ?_
    rw [HK2.out]; rintro e w' ⟨rfl, k2, rfl⟩
    go_wp2
    go_ret
    exact ⟨by simp [lessB, HK1.out, HK2.out, HT.out], by repeat (first | exact Below.refl _ _ | refine below_draws _ ?_ | (refine Below.alloc ?_ (by simp <;> omega) _))⟩
end Go.Proofs.Ytbpdbhchnpnabal
