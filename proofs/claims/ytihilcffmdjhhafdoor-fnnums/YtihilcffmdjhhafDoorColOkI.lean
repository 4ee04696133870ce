/- Whether a column is right: the landed ColOk. -/
import Derived.Test.YtihilcffmdjhhafDoorColOkS
import Derived.Test.YtihilcffmdjhhafDoorValOk
namespace Go.Proofs.YtihilcffmdjhhafDoor
open Go.ChangeShapes Go.WideShapes Go.ChangeAt Go.RowKit

theorem Cl.ok_null (c : Cl) (hw : wordB c.name = true) (h1 : ¬ c.ty < 1) (h3 : ¬ 3 < c.ty) (hn : c.null = true) : c.ok = (!c.nt || !c.has) := by
  have e1 : decide (1 ≤ c.ty) = true := by simp; omega
  have e3 : decide (c.ty ≤ 3) = true := by simp; omega
  have hk : okB c.dt c.dn c.ds = true := by
    unfold Cl.null at hn
    rw [Bool.and_eq_true, Bool.and_eq_true] at hn
    have hd : c.dt = 0 := by simpa using hn.1
    rw [okB, if_pos hd, hn.2.1, hn.2.2]; rfl
  simp only [Cl.ok, hw, e1, e3, hn, hk]
  cases c.has <;> cases c.nt <;> rfl
theorem Cl.ok_not (c : Cl) (hw : wordB c.name = true) (h1 : ¬ c.ty < 1) (h3 : ¬ 3 < c.ty) (hn : c.null = false) : c.ok = (c.has && (c.dt == c.ty && okB c.dt c.dn c.ds)) := by
  have e1 : decide (1 ≤ c.ty) = true := by simp; omega
  have e3 : decide (c.ty ≤ 3) = true := by simp; omega
  simp only [Cl.ok, hw, e1, e3, hn]
  cases c.has <;> cases c.dt == c.ty <;> cases okB c.dt c.dn c.ds <;> rfl

end Go.Proofs.YtihilcffmdjhhafDoor
