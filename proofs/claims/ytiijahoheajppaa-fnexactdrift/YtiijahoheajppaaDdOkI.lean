/- Whether a change is right: the landed DdlOk. -/
import Derived.Test.YtiijahoheajppaaDdOkS
import Derived.Test.YtiijahoheajppaaTbOkI
namespace Go.Proofs.Ytiijahoheajppaa
open Go.ChangeShapes Go.WideShapes Go.ChangeAt Go.RowKit

set_option maxRecDepth 100000 in
set_option maxHeartbeats 1000000 in
/-- impl.mayComeLater -/
theorem later_any (c : Cl) (w : World) (hn : c.name.size ≤ maxLen) : Calls Try.prog 41 #[c.v] w fun e w' => e = .returned (.bool (c.ok && (c.has || !c.nt))) ∧ Below w.heap.size w w' := by
  have HS : Hid (∀ w : World, Calls Try.prog 60 #[c.v] w fun e w' => e = .returned (.bool c.ok) ∧ Below w.heap.size w w') := fun w => colOk_impl c w hn
  clear hn
  have HL := Loc.new w c.cells 60
  generalize c.ok = k at HS
  obtain ⟨cn, ct, cnt, chas, cdt, cdn, cds⟩ := c
  cases k <;> cases cnt <;> cases chas
  all_goals
    go_enter Try.func41, Try.ntmps41
    go_wp2_with (go_at_call 60; refine (HS.out _).mono ?_; rintro e w1 ⟨rfl, b1⟩; have HL1 := HL.on b1; obtain ⟨l0, l1, l2, l3, l4, l5, l6⟩ := HL1.seven)
    go_ret
    exact ⟨rfl, (by repeat (first | with_reducible exact Below.refl _ _ | with_reducible assumption | with_reducible refine ch_alloc ?_ _ | with_reducible refine Below.drew ?_ | with_reducible refine below_draws _ ?_ | (with_reducible refine Below.setCell ?_ ?_ _; rotate_left; focus (first | with_reducible exact Nat.le_refl _ | (simp; done) | (simp; omega) | (simp at *; omega))) | with_reducible refine ch_trans ?_ (by with_reducible assumption)))⟩

end Go.Proofs.Ytiijahoheajppaa
