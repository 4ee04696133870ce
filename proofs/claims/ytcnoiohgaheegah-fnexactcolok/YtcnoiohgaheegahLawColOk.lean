/- For every column the landed ColOk answers as the given one does: 'FnExactColOk' returns true at every argument, with no condition; its argument reads afterwards as it read before. -/
import Derived.Test.YtcnoiohgaheegahColOkI
import Derived.Test.YtcnoiohgaheegahCh
import Derived.Test.YtcnoiohgaheegahOpenC
namespace Go.Proofs.Ytcnoiohgaheegah.lawColOk
open Go.ChangeShapes Go.WideShapes Go.ChangeAt Go.RowKit Go.Joins

set_option maxRecDepth 100000 in
set_option maxHeartbeats 1000000 in
theorem walk (c : Cl) (w : World) (hn : c.name.size ≤ maxLen) (hs : c.ds.size ≤ maxLen) :
    Calls Try.prog 3 #[c.v] w fun e w' => e = .returned (.bool true) ∧ Below w.heap.size w w' := by
  have HS : Hid (∀ w : World, Calls Try.prog 9 #[c.v, .int .i64 1048576] w fun e w' => e = .returned (.int .i64 (rest 1048576 c.sz)) ∧ Below w.heap.size w w') := fun w => szCol_any c 1048576 w hn hs (by omega) (by omega)
  have HT : Hid (∀ w : World, Calls Try.prog 11 #[c.v] w fun e w' => e = .returned c.v ∧ Below w.heap.size w w') := fun w => toCol_any c w
  have HA : Hid (∀ w : World, Calls Try.prog 10 #[c.v] w fun e w' => e = .returned (.bool c.ok) ∧ Below w.heap.size w w') := fun w => colOk_spec c w hn
  have HB : Hid (∀ w : World, Calls Try.prog 12 #[c.v] w fun e w' => e = .returned (.bool c.ok) ∧ Below w.heap.size w w') := fun w => colOk_impl c w hn
  have h0 : rest 1048576 c.sz = -1 ∨ 0 ≤ rest 1048576 c.sz := by unfold rest; split <;> omega
  generalize rest 1048576 c.sz = r at HS h0
  generalize c.ok = q at HA HB
  obtain ⟨name, ty, nt, has, dt, dn, ds⟩ := c
  clear hn hs
  have HL := Loc.new w (Cl.cells ⟨name, ty, nt, has, dt, dn, ds⟩) 25
  rcases h0 with rfl | h0
  · go_enter Try.func3, Try.ntmps3
    go_wp2_with (go_at_call 9; refine (HS.out _).mono ?_; rintro e w1 ⟨rfl, b1⟩; replace HL := HL.on b1; (try clear c0 c1 c2 c3 c4 c5 c6); obtain ⟨c0, c1, c2, c3, c4, c5, c6⟩ := HL.seven)
    go_ret
    exact ⟨rfl, (by repeat (first | with_reducible exact Below.refl _ _ | with_reducible assumption | with_reducible refine ch_alloc ?_ _ | with_reducible refine Below.drew ?_ | with_reducible refine below_draws _ ?_ | (with_reducible refine Below.setCell ?_ ?_ _; rotate_left; focus (first | with_reducible exact Nat.le_refl _ | (simp; done) | (simp; omega) | (simp at *; omega))) | with_reducible refine ch_trans ?_ (by with_reducible assumption)))⟩
  · cases q
    all_goals
      go_enter Try.func3, Try.ntmps3
      go_wp2_with (first
        | (go_at_call 9; refine (HS.out _).mono ?_; rintro e w1 ⟨rfl, b1⟩; replace HL := HL.on b1; (try clear c0 c1 c2 c3 c4 c5 c6); obtain ⟨c0, c1, c2, c3, c4, c5, c6⟩ := HL.seven)
        | (go_at_call 11; refine (HT.out _).mono ?_; rintro e w2 ⟨rfl, b2⟩; replace HL := HL.on b2; (try clear c0 c1 c2 c3 c4 c5 c6); obtain ⟨c0, c1, c2, c3, c4, c5, c6⟩ := HL.seven)
        | (go_at_call 10; refine (HA.out _).mono ?_; rintro e w3 ⟨rfl, b3⟩; replace HL := HL.on b3; (try clear c0 c1 c2 c3 c4 c5 c6); obtain ⟨c0, c1, c2, c3, c4, c5, c6⟩ := HL.seven)
        | (go_at_call 12; refine (HB.out _).mono ?_; rintro e w4 ⟨rfl, b4⟩; replace HL := HL.on b4; (try clear c0 c1 c2 c3 c4 c5 c6); obtain ⟨c0, c1, c2, c3, c4, c5, c6⟩ := HL.seven))
      go_ret
      exact ⟨rfl, (by repeat (first | with_reducible exact Below.refl _ _ | with_reducible assumption | with_reducible refine ch_alloc ?_ _ | with_reducible refine Below.drew ?_ | with_reducible refine below_draws _ ?_ | (with_reducible refine Below.setCell ?_ ?_ _; rotate_left; focus (first | with_reducible exact Nat.le_refl _ | (simp; done) | (simp; omega) | (simp at *; omega))) | with_reducible refine ch_trans ?_ (by with_reducible assumption)))⟩
theorem own : ownKnob Try.prog.godebug = none := by kernel_rfl
theorem laidOut : laidOutB Try.prog = true := by kernel_rfl

set_option maxRecDepth 100000 in
theorem lifted (os : Os) (started : os.Started) (H : Type) (enc : TypeId × Value → H) :
    ReturnsInHanded {} Try.checked os 3 .any (Rows.fnExactColOkSpec.pre6 enc Try.prog Try.f3 Rows.fnExactColOkRow.domain false) (Rows.fnExactColOkSpec.post enc Try.prog Try.f3 false true false false) := by
  refine returnsInHanded_of_change (C := Try.checked) own started (by kernel_rfl) Try.func3
    (ChangeSpec.witness6 (enc := enc) (C := Try.checked) false ⟨#[], #[.agg #[.string ByteArray.empty, .int .i64 0, .bool false, .bool false, .int .i64 0, .int .i64 0, .string ByteArray.empty]], []⟩ 8 (by kernel_rfl) (by kernel_rfl) (by kernel_rfl) (by kernel_rfl)) ?_
  intro W base args ds gs before hval0 hW _ _
  have hval : ∀ (j : Nat) t v, Try.f3.params[j]? = some t → args[j]? = some v → Value.okWide Try.prog W .any base t v := hval0
  have hW' := hW
  obtain ⟨p, q, hA0, hV, rfl, _, _⟩ := hW
  have hA : DataW.TrodAll enc Try.prog W 0 (fun _ => true) true Try.f3.params.toList args.toList ds p := hA0
  rw [Try.params3] at hA hval
  obtain ⟨v0, d0, rfl, rfl, h0⟩ := trodAll_one hA
  obtain ⟨rfl, rfl⟩ := trodVars_none hV
  have h0k := h0
  obtain ⟨cs, rfl, hsz⟩ := okWide_struct Try.underlying25 (hval 0 25 v0 rfl rfl)
  obtain ⟨k, hk⟩ := h0
  obtain ⟨c, hc, hn, hs⟩ := open_col hk
  have hc' : cs = c.cells := by apply Array.toList_inj.1; simpa [Value.cells] using hc
  subst hc'
  clear hA0 hval0
  simp only [List.append_nil] at hW'
  have hlt : ∀ x ∈ p, x.block < W.heap.size := fun x hx => by simpa using hW'.lt x (by simpa using hx)
  refine (walk c W hn hs).mono fun e W' ⟨he, bel⟩ => ?_
  subst he
  exact ⟨_, rfl, _, _, _, [], _, [], hW', trodAll_mk1 (shut_bool Try.underlying4 _), trodAll_mk1 (Below.trod laidOut (by kernel_rfl) (of_decide_eq_true (by kernel_rfl)) h0k bel hlt), rfl, bel.frame _, fun h => by cases h⟩

theorem over : Rows.FnExactColOkSaid :=
  OpenClaim.holds_of_wide 3 Try.f3 rfl rfl rfl rfl rfl rfl rfl ⟨rfl, rfl, rfl, rfl, rfl⟩ rfl rfl rfl rfl rfl (by kernel_rfl) Try.func3 (by kernel_rfl)
    (of_decide_eq_true (by kernel_rfl)) (by unfold Func.isWrapper; first | (rw [if_pos (by decide +kernel)]; kernel_rfl) | (rw [if_neg (by decide +kernel)]; exact ⟨rfl, rfl⟩))
    (fun os started H enc _ => lifted os started H enc)
end Go.Proofs.Ytcnoiohgaheegah.lawColOk
namespace Go.Proofs.Ytcnoiohgaheegah
theorem fnExactColOk_holds : Rows.FnExactColOkSaid := lawColOk.over
#print axioms fnExactColOk_holds
end Go.Proofs.Ytcnoiohgaheegah
