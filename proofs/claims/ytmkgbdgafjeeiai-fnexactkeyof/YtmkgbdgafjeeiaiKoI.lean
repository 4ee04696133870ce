/- The key of a right row: given and landed. -/
import Derived.Test.YtmkgbdgafjeeiaiRowOkI
import Derived.Test.YtmkgbdgafjeeiaiKv
import Derived.Deep.RegionWith
namespace Go.Proofs.Ytmkgbdgafjeeiai
open Go.ChangeShapes Go.WideShapes Go.ChangeAt Go.RowKit

set_option maxRecDepth 100000 in
set_option maxHeartbeats 1000000 in
/-- spec.KeyOf -/
theorem keyOf_spec (x : Array Value) (t : Tc) (v : Value) (vs : List Vc) (w : World) (hx : TabV w x t) (hv : ValsV w v vs) (hf : t.fit) (ks : List Vc) (hks : (rowRight t vs ∧ ks = keyVals t vs) ∨ (¬ rowRight t vs ∧ ks = [])) :
    Calls Try.prog 18 #[.agg x, .agg #[v]] w fun e w' => ∃ kv, e = .returned kv ∧ Below w.heap.size w w' ∧ Got w' w.heap.size 58 3 kv (ks.map Vc.cells) := by
  obtain ⟨a, p, o, r, rfl, hx, _, _⟩ := hx.lit
  obtain ⟨a', p', rfl, _, _, hv⟩ := hv.lit
  have HX : Hid (TabV w #[.string t.name, .slice a t.cols.length p, .slice o t.keys.length r] t) := hx
  have HV : Hid (ValsV w (.slice a' vs.length p') vs) := hv
  have HL := Loc.new w #[.string t.name, .slice a t.cols.length p, .slice o t.keys.length r] 30
  have HM := Loc.new (w.alloc (.cells #[.string t.name, .slice a t.cols.length p, .slice o t.keys.length r] 30)) #[.slice a' vs.length p'] 40
  rw [show (w.alloc (.cells #[.string t.name, .slice a t.cols.length p, .slice o t.keys.length r] 30)).heap.size = w.heap.size + 1 from by simp] at HM
  clear hx hv
  go_enter Try.func18, Try.ntmps18
  go_wp2_with fail
  refine (rowOk_spec _ t _ vs _ (HX.out.on (w' := ((w.alloc (.cells #[.string t.name, .slice a t.cols.length p, .slice o t.keys.length r] 30)).alloc (.cells #[.slice a' vs.length p'] 40))) (by repeat (first | with_reducible exact Below.refl _ _ | with_reducible assumption | with_reducible refine ch_alloc ?_ _ | with_reducible refine Below.drew ?_ | with_reducible refine below_draws _ ?_ | (with_reducible refine Below.setCell ?_ ?_ _; rotate_left; focus (first | with_reducible exact Nat.le_refl _ | (simp; done) | (simp; omega) | (simp at *; omega))) | with_reducible refine ch_trans ?_ (by with_reducible assumption)))) (HV.out.on (w' := ((w.alloc (.cells #[.string t.name, .slice a t.cols.length p, .slice o t.keys.length r] 30)).alloc (.cells #[.slice a' vs.length p'] 40))) (by repeat (first | with_reducible exact Below.refl _ _ | with_reducible assumption | with_reducible refine ch_alloc ?_ _ | with_reducible refine Below.drew ?_ | with_reducible refine below_draws _ ?_ | (with_reducible refine Below.setCell ?_ ?_ _; rotate_left; focus (first | with_reducible exact Nat.le_refl _ | (simp; done) | (simp; omega) | (simp at *; omega))) | with_reducible refine ch_trans ?_ (by with_reducible assumption)))) hf).mono ?_
  rintro e w1 ⟨q, rfl, hq, b1⟩
  have HL1 := HL.on (w' := w1) (by repeat (first | with_reducible exact Below.refl _ _ | with_reducible assumption | with_reducible refine ch_alloc ?_ _ | with_reducible refine Below.drew ?_ | with_reducible refine below_draws _ ?_ | (with_reducible refine Below.setCell ?_ ?_ _; rotate_left; focus (first | with_reducible exact Nat.le_refl _ | (simp; done) | (simp; omega) | (simp at *; omega))) | with_reducible refine ch_trans ?_ (by with_reducible assumption)))
  have HM1 := HM.on (w' := w1) (by repeat (first | with_reducible exact Below.refl _ _ | with_reducible assumption | with_reducible refine ch_alloc ?_ _ | with_reducible refine Below.drew ?_ | with_reducible refine below_draws _ ?_ | (with_reducible refine Below.setCell ?_ ?_ _; rotate_left; focus (first | with_reducible exact Nat.le_refl _ | (simp; done) | (simp; omega) | (simp at *; omega))) | with_reducible refine ch_trans ?_ (by with_reducible assumption)))
  obtain ⟨c0, c1, c2⟩ := HL1.three
  have d0 := HM1.one
  rcases hks with ⟨hr, rfl⟩ | ⟨hr, rfl⟩
  · obtain rfl : q = true := hq.2 hr
    have HRR : Hid (rowRight t vs) := hr
    clear hq hr
    go_wp2_with fail
    refine (l03Key_any _ t _ vs _ (HX.out.on (w' := w1) (by repeat (first | with_reducible exact Below.refl _ _ | with_reducible assumption | with_reducible refine ch_alloc ?_ _ | with_reducible refine Below.drew ?_ | with_reducible refine below_draws _ ?_ | (with_reducible refine Below.setCell ?_ ?_ _; rotate_left; focus (first | with_reducible exact Nat.le_refl _ | (simp; done) | (simp; omega) | (simp at *; omega))) | with_reducible refine ch_trans ?_ (by with_reducible assumption)))) (HV.out.on (w' := w1) (by repeat (first | with_reducible exact Below.refl _ _ | with_reducible assumption | with_reducible refine ch_alloc ?_ _ | with_reducible refine Below.drew ?_ | with_reducible refine below_draws _ ?_ | (with_reducible refine Below.setCell ?_ ?_ _; rotate_left; focus (first | with_reducible exact Nat.le_refl _ | (simp; done) | (simp; omega) | (simp at *; omega))) | with_reducible refine ch_trans ?_ (by with_reducible assumption)))) HRR.out.1 HRR.out.2.1).mono ?_
    rintro e w2 ⟨kv, rfl, b2, hg⟩
    have hsz : w.heap.size ≤ w1.heap.size := by have := b1.size; simp at this; omega
    have HG : Hid (Got w2 w.heap.size 58 3 kv ((keyVals t vs).map Vc.cells)) := hg.mono hsz
    clear hg
    go_wp2
    go_ret
    exact ⟨_, rfl, (by repeat (first | with_reducible exact Below.refl _ _ | with_reducible assumption | with_reducible refine ch_alloc ?_ _ | with_reducible refine Below.drew ?_ | with_reducible refine below_draws _ ?_ | (with_reducible refine Below.setCell ?_ ?_ _; rotate_left; focus (first | with_reducible exact Nat.le_refl _ | (simp; done) | (simp; omega) | (simp at *; omega))) | with_reducible refine ch_trans ?_ (by with_reducible assumption))), HG.out⟩
  · obtain rfl : q = false := by cases q; rfl; exact absurd (hq.1 rfl) hr
    clear hq hr
    go_wp2
    go_ret
    exact ⟨_, rfl, (by repeat (first | with_reducible exact Below.refl _ _ | with_reducible assumption | with_reducible refine ch_alloc ?_ _ | with_reducible refine Below.drew ?_ | with_reducible refine below_draws _ ?_ | (with_reducible refine Below.setCell ?_ ?_ _; rotate_left; focus (first | with_reducible exact Nat.le_refl _ | (simp; done) | (simp; omega) | (simp at *; omega))) | with_reducible refine ch_trans ?_ (by with_reducible assumption))), Got.nil _ _ _ _⟩

set_option maxRecDepth 100000 in
set_option maxHeartbeats 1000000 in
/-- impl.KeyOf -/
theorem keyOf_impl (x : Array Value) (t : Tc) (v : Value) (vs : List Vc) (w : World) (hx : TabV w x t) (hv : ValsV w v vs) (hf : t.fit) (ks : List Vc) (hks : (rowRight t vs ∧ ks = keyVals t vs) ∨ (¬ rowRight t vs ∧ ks = [])) :
    Calls Try.prog 19 #[.agg x, .agg #[v]] w fun e w' => ∃ kv, e = .returned kv ∧ Below w.heap.size w w' ∧ Got w' w.heap.size 58 3 kv (ks.map Vc.cells) := by
  obtain ⟨a, p, o, r, rfl, hx, _, _⟩ := hx.lit
  obtain ⟨a', p', rfl, _, _, hv⟩ := hv.lit
  have HX : Hid (TabV w #[.string t.name, .slice a t.cols.length p, .slice o t.keys.length r] t) := hx
  have HV : Hid (ValsV w (.slice a' vs.length p') vs) := hv
  have HF : Hid t.fit := hf
  have HL := Loc.new w #[.string t.name, .slice a t.cols.length p, .slice o t.keys.length r] 30
  have HM := Loc.new (w.alloc (.cells #[.string t.name, .slice a t.cols.length p, .slice o t.keys.length r] 30)) #[.slice a' vs.length p'] 40
  rw [show (w.alloc (.cells #[.string t.name, .slice a t.cols.length p, .slice o t.keys.length r] 30)).heap.size = w.heap.size + 1 from by simp] at HM
  clear hx hv hf
  go_enter Try.func19, Try.ntmps19
  go_wp2_with fail
  refine (rowOk_impl _ t _ vs _ (HX.out.on (w' := ((w.alloc (.cells #[.string t.name, .slice a t.cols.length p, .slice o t.keys.length r] 30)).alloc (.cells #[.slice a' vs.length p'] 40))) (by repeat (first | with_reducible exact Below.refl _ _ | with_reducible assumption | with_reducible refine ch_alloc ?_ _ | with_reducible refine Below.drew ?_ | with_reducible refine below_draws _ ?_ | (with_reducible refine Below.setCell ?_ ?_ _; rotate_left; focus (first | with_reducible exact Nat.le_refl _ | (simp; done) | (simp; omega) | (simp at *; omega))) | with_reducible refine ch_trans ?_ (by with_reducible assumption)))) (HV.out.on (w' := ((w.alloc (.cells #[.string t.name, .slice a t.cols.length p, .slice o t.keys.length r] 30)).alloc (.cells #[.slice a' vs.length p'] 40))) (by repeat (first | with_reducible exact Below.refl _ _ | with_reducible assumption | with_reducible refine ch_alloc ?_ _ | with_reducible refine Below.drew ?_ | with_reducible refine below_draws _ ?_ | (with_reducible refine Below.setCell ?_ ?_ _; rotate_left; focus (first | with_reducible exact Nat.le_refl _ | (simp; done) | (simp; omega) | (simp at *; omega))) | with_reducible refine ch_trans ?_ (by with_reducible assumption)))) HF.out).mono ?_
  rintro e w1 ⟨q, rfl, hq, b1⟩
  have HL1 := HL.on (w' := w1) (by repeat (first | with_reducible exact Below.refl _ _ | with_reducible assumption | with_reducible refine ch_alloc ?_ _ | with_reducible refine Below.drew ?_ | with_reducible refine below_draws _ ?_ | (with_reducible refine Below.setCell ?_ ?_ _; rotate_left; focus (first | with_reducible exact Nat.le_refl _ | (simp; done) | (simp; omega) | (simp at *; omega))) | with_reducible refine ch_trans ?_ (by with_reducible assumption)))
  have HM1 := HM.on (w' := w1) (by repeat (first | with_reducible exact Below.refl _ _ | with_reducible assumption | with_reducible refine ch_alloc ?_ _ | with_reducible refine Below.drew ?_ | with_reducible refine below_draws _ ?_ | (with_reducible refine Below.setCell ?_ ?_ _; rotate_left; focus (first | with_reducible exact Nat.le_refl _ | (simp; done) | (simp; omega) | (simp at *; omega))) | with_reducible refine ch_trans ?_ (by with_reducible assumption)))
  obtain ⟨c0, c1, c2⟩ := HL1.three
  have d0 := HM1.one
  rcases hks with ⟨hr, rfl⟩ | ⟨hr, rfl⟩
  · obtain rfl : q = true := hq.2 hr
    have HRR : Hid (rowRight t vs) := hr
    clear hq hr
    have hpl : t.places.length ≤ 1048576 := by
      have h1 := right_keys HRR.out.1
      have h2 := HRR.out.1.2.2.1
      simp only [Tc.places, List.length_map]; omega
    have HW : Hid (within' t.places vs.length) := by
      have h := right_within HRR.out.1
      rw [← HRR.out.2.1] at h
      exact h
    have hsz : w.heap.size ≤ w1.heap.size := by have := b1.size; simp at this; omega
    go_wp2_with fail
    go_region_with (first
      | (go_at_call 44; refine (keyPlacesOf_any _ t _ (HX.out.on (by repeat (first | with_reducible exact Below.refl _ _ | with_reducible assumption | with_reducible refine ch_alloc ?_ _ | with_reducible refine Below.drew ?_ | with_reducible refine below_draws _ ?_ | (with_reducible refine Below.setCell ?_ ?_ _; rotate_left; focus (first | with_reducible exact Nat.le_refl _ | (simp; done) | (simp; omega) | (simp at *; omega))) | with_reducible refine ch_trans ?_ (by with_reducible assumption)))) HF.out HRR.out.1).mono ?_; rintro e w2 ⟨pv, rfl, b2, hi⟩; have HI : Hid (IntsV w2 pv t.places) := hi; clear hi; have d1 := cell_on d0 (show Below w1.heap.size w1 w2 from (by repeat (first | with_reducible exact Below.refl _ _ | with_reducible assumption | with_reducible refine ch_alloc ?_ _ | with_reducible refine Below.drew ?_ | with_reducible refine below_draws _ ?_ | (with_reducible refine Below.setCell ?_ ?_ _; rotate_left; focus (first | with_reducible exact Nat.le_refl _ | (simp; done) | (simp; omega) | (simp at *; omega))) | with_reducible refine ch_trans ?_ (by with_reducible assumption)))))
      | (go_at_call 45; refine (keyOf_any _ t.places _ vs _ (HI.out.on (by repeat (first | with_reducible exact Below.refl _ _ | with_reducible assumption | with_reducible refine ch_alloc ?_ _ | with_reducible refine Below.drew ?_ | with_reducible refine below_draws _ ?_ | (with_reducible refine Below.setCell ?_ ?_ _; rotate_left; focus (first | with_reducible exact Nat.le_refl _ | (simp; done) | (simp; omega) | (simp at *; omega))) | with_reducible refine ch_trans ?_ (by with_reducible assumption)))) (HV.out.on (by repeat (first | with_reducible exact Below.refl _ _ | with_reducible assumption | with_reducible refine ch_alloc ?_ _ | with_reducible refine Below.drew ?_ | with_reducible refine below_draws _ ?_ | (with_reducible refine Below.setCell ?_ ?_ _; rotate_left; focus (first | with_reducible exact Nat.le_refl _ | (simp; done) | (simp; omega) | (simp at *; omega))) | with_reducible refine ch_trans ?_ (by with_reducible assumption)))) HW.out hpl).mono ?_; rintro e w3 ⟨kv, rfl, b3, hg⟩; have HG3 : Hid (Got w3 w2.heap.size 58 3 kv ((keyVals t vs).map Vc.cells)) := hg; clear hg))
    all_goals
      have HG : Hid (Got w3 w.heap.size 58 3 kv ((keyVals t vs).map Vc.cells)) := HG3.out.mono (by have := (show Below w1.heap.size w1 w2 from (by repeat (first | with_reducible exact Below.refl _ _ | with_reducible assumption | with_reducible refine ch_alloc ?_ _ | with_reducible refine Below.drew ?_ | with_reducible refine below_draws _ ?_ | (with_reducible refine Below.setCell ?_ ?_ _; rotate_left; focus (first | with_reducible exact Nat.le_refl _ | (simp; done) | (simp; omega) | (simp at *; omega))) | with_reducible refine ch_trans ?_ (by with_reducible assumption)))).size; omega)
      clear HG3
      go_wp2
      go_ret
      exact ⟨_, rfl, (by repeat (first | with_reducible exact Below.refl _ _ | with_reducible assumption | with_reducible refine ch_alloc ?_ _ | with_reducible refine Below.drew ?_ | with_reducible refine below_draws _ ?_ | (with_reducible refine Below.setCell ?_ ?_ _; rotate_left; focus (first | with_reducible exact Nat.le_refl _ | (simp; done) | (simp; omega) | (simp at *; omega))) | with_reducible refine ch_trans ?_ (by with_reducible assumption))), HG.out⟩
  · obtain rfl : q = false := by cases q; rfl; exact absurd (hq.1 rfl) hr
    clear hq hr
    go_wp2
    go_ret
    exact ⟨_, rfl, (by repeat (first | with_reducible exact Below.refl _ _ | with_reducible assumption | with_reducible refine ch_alloc ?_ _ | with_reducible refine Below.drew ?_ | with_reducible refine below_draws _ ?_ | (with_reducible refine Below.setCell ?_ ?_ _; rotate_left; focus (first | with_reducible exact Nat.le_refl _ | (simp; done) | (simp; omega) | (simp at *; omega))) | with_reducible refine ch_trans ?_ (by with_reducible assumption))), Got.nil _ _ _ _⟩
end Go.Proofs.Ytmkgbdgafjeeiai
