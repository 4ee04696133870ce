/- For every two lists of rows the landed SameRows answers as the given one does, and leaves both as they were: 'FnExactSameRows' returns true at all arguments, with no condition; its arguments read afterwards as they read before. -/
import Derived.Test.YtodmbdfhcghdpakSameR
import Derived.Test.YtodmbdfhcghdpakOpenRs
import Derived.Deep.RegionWith
import Derived.Deep.DeepCutAuto
namespace Go.Proofs.Ytodmbdfhcghdpak.lawSameRows
open Go.ChangeShapes Go.WideShapes Go.ChangeAt Go.RowKit

theorem bool_of (p : Prop) : ∃ q : Bool, q = true ↔ p := by
  by_cases h : p
  · exact ⟨true, by simp [h]⟩
  · exact ⟨false, by simp [h]⟩
set_option maxRecDepth 100000 in
set_option maxHeartbeats 2000000 in
theorem walk (x y : Value) (s t : List (List Vc)) (w : World) (hx : RowsV w x s) (hy : RowsV w y t) (hfs : rfits s) (hft : rfits t) :
    Calls Try.prog 3 #[x, y] w fun e w' => e = .returned (.bool true) ∧ Below w.heap.size w w' := by
  obtain ⟨a, p, rfl, _, _, hx⟩ := hx.lit
  obtain ⟨b, q, rfl, _, _, hy⟩ := hy.lit
  have HX : Hid (RowsV w (.slice a s.length p) s) := hx
  have HY : Hid (RowsV w (.slice b t.length q) t) := hy
  have HF : Hid (rfits s ∧ rfits t) := ⟨hfs, hft⟩
  clear hx hy hfs hft
  go_enter Try.func3, Try.ntmps3
  go_wp2_with fail
  refine (szRowS_any _ s _ _ HX.out HF.out.1 (by omega) (by omega)).mono ?_
  rintro e w1 ⟨r, rfl, b1, hr⟩
  rcases hr with rfl | ⟨r0, r1, fews⟩
  · go_wp2
    go_ret
    exact ⟨rfl, (by repeat (first | with_reducible exact Below.refl _ _ | with_reducible assumption | with_reducible refine ch_alloc ?_ _ | with_reducible refine Below.drew ?_ | with_reducible refine below_draws _ ?_ | (with_reducible refine Below.setCell ?_ ?_ _; rotate_left; focus (first | with_reducible exact Nat.le_refl _ | (simp; done) | (simp; omega) | (simp at *; omega))) | with_reducible refine ch_trans ?_ (by with_reducible assumption)))⟩
  go_wp2_with fail
  refine (szRowS_any _ t r _ (HY.out.on (w' := w1) (by repeat (first | with_reducible exact Below.refl _ _ | with_reducible assumption | with_reducible refine ch_alloc ?_ _ | with_reducible refine Below.drew ?_ | with_reducible refine below_draws _ ?_ | (with_reducible refine Below.setCell ?_ ?_ _; rotate_left; focus (first | with_reducible exact Nat.le_refl _ | (simp; done) | (simp; omega) | (simp at *; omega))) | with_reducible refine ch_trans ?_ (by with_reducible assumption)))) HF.out.2 (by omega) (by omega)).mono ?_
  rintro e w2 ⟨r', rfl, b2, hr'⟩
  rcases hr' with rfl | ⟨r0', r1', fewt⟩
  · go_wp2
    go_ret
    exact ⟨rfl, (by repeat (first | with_reducible exact Below.refl _ _ | with_reducible assumption | with_reducible refine ch_alloc ?_ _ | with_reducible refine Below.drew ?_ | with_reducible refine below_draws _ ?_ | (with_reducible refine Below.setCell ?_ ?_ _; rotate_left; focus (first | with_reducible exact Nat.le_refl _ | (simp; done) | (simp; omega) | (simp at *; omega))) | with_reducible refine ch_trans ?_ (by with_reducible assumption)))⟩
  obtain ⟨qz, hqz⟩ := bool_of (s = t)
  have HSS : Hid (∀ (u : World) (X Y : Value), RowsV u X s → RowsV u Y t → Calls Try.prog 7 #[X, Y] u fun e w' => e = .returned (.bool qz) ∧ Below u.heap.size u w') := fun u X Y h1 h2 => (sameRows_spec X Y s t u h1 h2).mono fun e w' ⟨q, h3, h4, h5⟩ => ⟨by rw [h3, Bool.eq_iff_iff.2 (h4.trans hqz.symm)], h5⟩
  have HSI : Hid (∀ (u : World) (X Y : Value), RowsV u X s → RowsV u Y t → Calls Try.prog 9 #[X, Y] u fun e w' => e = .returned (.bool qz) ∧ Below u.heap.size u w') := fun u X Y h1 h2 => (sameRows_impl X Y s t u h1 h2).mono fun e w' ⟨q, h3, h4, h5⟩ => ⟨by rw [h3, Bool.eq_iff_iff.2 (h4.trans hqz.symm)], h5⟩
  have hms : s.length ≤ maxLen := by have := fews.1; unfold maxLen; omega
  have hmt : t.length ≤ maxLen := by have := fewt.1; unfold maxLen; omega
  clear hqz
  have hbw2 : Below w.heap.size w w2 := (by repeat (first | with_reducible exact Below.refl _ _ | with_reducible assumption | with_reducible refine ch_alloc ?_ _ | with_reducible refine Below.drew ?_ | with_reducible refine below_draws _ ?_ | (with_reducible refine Below.setCell ?_ ?_ _; rotate_left; focus (first | with_reducible exact Nat.le_refl _ | (simp; done) | (simp; omega) | (simp at *; omega))) | with_reducible refine ch_trans ?_ (by with_reducible assumption)))
  clear b1 b2
  have HTA : Hid (∀ u : World, RowsV u (.slice a s.length p) s → Calls Try.prog 8 #[.slice a s.length p] u fun e w' => ∃ c, e = .returned (.slice c s.length s.length) ∧ Below u.heap.size u w' ∧ RowsV w' (.slice c s.length s.length) s) := fun u hu => (toRowS_any _ s u hu fews).mono fun e w' ⟨B, h1, h2, h3, h4⟩ => ⟨_, h1, h3, h4.done hms⟩
  have HTB : Hid (∀ u : World, RowsV u (.slice b t.length q) t → Calls Try.prog 8 #[.slice b t.length q] u fun e w' => ∃ c, e = .returned (.slice c t.length t.length) ∧ Below u.heap.size u w' ∧ RowsV w' (.slice c t.length t.length) t) := fun u hu => (toRowS_any _ t u hu fewt).mono fun e w' ⟨B, h1, h2, h3, h4⟩ => ⟨_, h1, h3, h4.done hmt⟩
  go_wp2_with fail
  refine (HTA.out _ (HX.out.on (w' := w2) (by repeat (first | with_reducible exact Below.refl _ _ | with_reducible assumption | with_reducible refine ch_alloc ?_ _ | with_reducible refine Below.drew ?_ | with_reducible refine below_draws _ ?_ | (with_reducible refine Below.setCell ?_ ?_ _; rotate_left; focus (first | with_reducible exact Nat.le_refl _ | (simp; done) | (simp; omega) | (simp at *; omega))) | with_reducible refine ch_trans ?_ (by with_reducible assumption))))).mono ?_
  rintro e w3 ⟨c3, rfl, b3, h3⟩
  have HA3 : Hid (RowsV w3 (.slice c3 s.length s.length) s) := h3
  clear h3
  go_wp2_with fail
  refine (HTB.out _ (HY.out.on (w' := w3) (by repeat (first | with_reducible exact Below.refl _ _ | with_reducible assumption | with_reducible refine ch_alloc ?_ _ | with_reducible refine Below.drew ?_ | with_reducible refine below_draws _ ?_ | (with_reducible refine Below.setCell ?_ ?_ _; rotate_left; focus (first | with_reducible exact Nat.le_refl _ | (simp; done) | (simp; omega) | (simp at *; omega))) | with_reducible refine ch_trans ?_ (by with_reducible assumption))))).mono ?_
  rintro e w4 ⟨c4, rfl, b4, h4⟩
  have HB4 : Hid (RowsV w4 (.slice c4 t.length t.length) t) := h4
  clear h4
  go_wp2_with fail
  refine (HSS.out _ _ _ (HA3.out.on (w' := w4) (by repeat (first | with_reducible exact Below.refl _ _ | with_reducible assumption | with_reducible refine ch_alloc ?_ _ | with_reducible refine Below.drew ?_ | with_reducible refine below_draws _ ?_ | (with_reducible refine Below.setCell ?_ ?_ _; rotate_left; focus (first | with_reducible exact Nat.le_refl _ | (simp; done) | (simp; omega) | (simp at *; omega))) | with_reducible refine ch_trans ?_ (by with_reducible assumption)))) HB4.out).mono ?_
  rintro e w5 ⟨rfl, b5⟩
  go_wp2_with fail
  refine (HTA.out _ (HX.out.on (w' := w5) (by repeat (first | with_reducible exact Below.refl _ _ | with_reducible assumption | with_reducible refine ch_alloc ?_ _ | with_reducible refine Below.drew ?_ | with_reducible refine below_draws _ ?_ | (with_reducible refine Below.setCell ?_ ?_ _; rotate_left; focus (first | with_reducible exact Nat.le_refl _ | (simp; done) | (simp; omega) | (simp at *; omega))) | with_reducible refine ch_trans ?_ (by with_reducible assumption))))).mono ?_
  rintro e w6 ⟨c6, rfl, b6, h6⟩
  have HA6 : Hid (RowsV w6 (.slice c6 s.length s.length) s) := h6
  clear h6
  go_wp2_with fail
  refine (HTB.out _ (HY.out.on (w' := w6) (by repeat (first | with_reducible exact Below.refl _ _ | with_reducible assumption | with_reducible refine ch_alloc ?_ _ | with_reducible refine Below.drew ?_ | with_reducible refine below_draws _ ?_ | (with_reducible refine Below.setCell ?_ ?_ _; rotate_left; focus (first | with_reducible exact Nat.le_refl _ | (simp; done) | (simp; omega) | (simp at *; omega))) | with_reducible refine ch_trans ?_ (by with_reducible assumption))))).mono ?_
  rintro e w7 ⟨c7, rfl, b7, h7⟩
  have HB7 : Hid (RowsV w7 (.slice c7 t.length t.length) t) := h7
  clear h7
  go_wp2_with fail
  refine (HSI.out _ _ _ (HA6.out.on (w' := w7) (by repeat (first | with_reducible exact Below.refl _ _ | with_reducible assumption | with_reducible refine ch_alloc ?_ _ | with_reducible refine Below.drew ?_ | with_reducible refine below_draws _ ?_ | (with_reducible refine Below.setCell ?_ ?_ _; rotate_left; focus (first | with_reducible exact Nat.le_refl _ | (simp; done) | (simp; omega) | (simp at *; omega))) | with_reducible refine ch_trans ?_ (by with_reducible assumption)))) HB7.out).mono ?_
  rintro e w8 ⟨rfl, b8⟩
  have hqq : (qz != qz) = false := by simp
  go_wp2_with fail
  refine (HTA.out _ (HX.out.on (w' := w8) (by repeat (first | with_reducible exact Below.refl _ _ | with_reducible assumption | with_reducible refine ch_alloc ?_ _ | with_reducible refine Below.drew ?_ | with_reducible refine below_draws _ ?_ | (with_reducible refine Below.setCell ?_ ?_ _; rotate_left; focus (first | with_reducible exact Nat.le_refl _ | (simp; done) | (simp; omega) | (simp at *; omega))) | with_reducible refine ch_trans ?_ (by with_reducible assumption))))).mono ?_
  rintro e w9 ⟨c9, rfl, b9, h9⟩
  have HA9 : Hid (RowsV w9 (.slice c9 s.length s.length) s) := h9
  clear h9
  go_wp2_with fail
  refine (eqRowS_same _ _ s _ (HA6.out.on (w' := w9) (by repeat (first | with_reducible exact Below.refl _ _ | with_reducible assumption | with_reducible refine ch_alloc ?_ _ | with_reducible refine Below.drew ?_ | with_reducible refine below_draws _ ?_ | (with_reducible refine Below.setCell ?_ ?_ _; rotate_left; focus (first | with_reducible exact Nat.le_refl _ | (simp; done) | (simp; omega) | (simp at *; omega))) | with_reducible refine ch_trans ?_ (by with_reducible assumption)))) HA9.out).mono ?_
  rintro e w10 ⟨rfl, b10⟩
  go_wp2_with fail
  refine (HTB.out _ (HY.out.on (w' := w10) (by repeat (first | with_reducible exact Below.refl _ _ | with_reducible assumption | with_reducible refine ch_alloc ?_ _ | with_reducible refine Below.drew ?_ | with_reducible refine below_draws _ ?_ | (with_reducible refine Below.setCell ?_ ?_ _; rotate_left; focus (first | with_reducible exact Nat.le_refl _ | (simp; done) | (simp; omega) | (simp at *; omega))) | with_reducible refine ch_trans ?_ (by with_reducible assumption))))).mono ?_
  rintro e w11 ⟨c11, rfl, b11, h11⟩
  have HB11 : Hid (RowsV w11 (.slice c11 t.length t.length) t) := h11
  clear h11
  go_wp2_with fail
  refine (eqRowS_same _ _ t _ (HB7.out.on (w' := w11) (by repeat (first | with_reducible exact Below.refl _ _ | with_reducible assumption | with_reducible refine ch_alloc ?_ _ | with_reducible refine Below.drew ?_ | with_reducible refine below_draws _ ?_ | (with_reducible refine Below.setCell ?_ ?_ _; rotate_left; focus (first | with_reducible exact Nat.le_refl _ | (simp; done) | (simp; omega) | (simp at *; omega))) | with_reducible refine ch_trans ?_ (by with_reducible assumption)))) HB11.out).mono ?_
  rintro e w12 ⟨rfl, b12⟩
  go_wp2
  go_ret
  exact ⟨rfl, (by repeat (first | with_reducible exact Below.refl _ _ | with_reducible assumption | with_reducible refine ch_alloc ?_ _ | with_reducible refine Below.drew ?_ | with_reducible refine below_draws _ ?_ | (with_reducible refine Below.setCell ?_ ?_ _; rotate_left; focus (first | with_reducible exact Nat.le_refl _ | (simp; done) | (simp; omega) | (simp at *; omega))) | with_reducible refine ch_trans ?_ (by with_reducible assumption)))⟩

theorem own : ownKnob Try.prog.godebug = none := by kernel_rfl
theorem laidOut : laidOutB Try.prog = true := by kernel_rfl

set_option maxRecDepth 100000 in
theorem lifted (os : Os) (started : os.Started) (H : Type) (enc : TypeId × Value → H) :
    ReturnsInHanded {} Try.checked os 3 .any (Rows.fnExactSameRowsSpec.pre6 enc Try.prog Try.f3 Rows.fnExactSameRowsRow.domain false) (Rows.fnExactSameRowsSpec.post enc Try.prog Try.f3 false true false false) := by
  refine returnsInHanded_of_change (C := Try.checked) own started (by kernel_rfl) Try.func3
    (ChangeSpec.witness6 (enc := enc) (C := Try.checked) false ⟨#[], #[.slice none 0 0, .slice none 0 0], []⟩ 8 (by kernel_rfl) (by kernel_rfl) (by kernel_rfl) (by kernel_rfl)) ?_
  intro W base args ds gs before hval0 hW _ _
  have hval : ∀ (j : Nat) t v, Try.f3.params[j]? = some t → args[j]? = some v → Value.okWide Try.prog W .any base t v := hval0
  have hW' := hW
  obtain ⟨p, q, hA0, hV, rfl, _, _⟩ := hW
  have hA : DataW.TrodAll enc Try.prog W 0 (fun _ => true) true Try.f3.params.toList args.toList ds p := hA0
  rw [Try.params3] at hA hval
  obtain ⟨v0, v1, d0, d1, p0, p1, rfl, rfl, rfl, h0, h1⟩ := trodAll_two hA
  obtain ⟨rfl, rfl⟩ := trodVars_none hV
  have h0k := h0
  have h1k := h1
  obtain ⟨a0, len0, cap0, rfl⟩ := okWide_slice Try.underlying22 (hval 0 22 v0 rfl rfl)
  obtain ⟨k, hk⟩ := h0
  obtain ⟨x, t, hc, hx, hf⟩ := open_rows hk
  have hc' : x = .slice a0 len0 cap0 := by simpa [Value.cells] using hc.symm
  subst hc'
  obtain ⟨a1, len1, cap1, rfl⟩ := okWide_slice Try.underlying22 (hval 1 22 v1 rfl rfl)
  obtain ⟨k1, hk1⟩ := h1
  obtain ⟨x1, t1, hc1, hx1, hf1⟩ := open_rows hk1
  have hc1' : x1 = .slice a1 len1 cap1 := by simpa [Value.cells] using hc1.symm
  subst hc1'
  clear hA0 hval0
  simp only [List.append_nil] at hW'
  have hlt : ∀ x ∈ p0, x.block < W.heap.size := fun x hx => by simpa using hW'.lt x (by simp [hx])
  have hlt1 : ∀ x ∈ p1, x.block < W.heap.size := fun x hx => by simpa using hW'.lt x (by simp [hx])
  refine (walk _ _ t t1 W hx hx1 hf hf1).mono fun e W' ⟨he, bel⟩ => ?_
  subst he
  exact ⟨_, rfl, _, _, _, [], _, [], hW', trodAll_mk1 (shut_bool Try.underlying4 _), trodAll_mk2 (Below.trod laidOut (by kernel_rfl) (of_decide_eq_true (by kernel_rfl)) h0k bel hlt) (Below.trod laidOut (by kernel_rfl) (of_decide_eq_true (by kernel_rfl)) h1k bel hlt1), rfl, bel.frame _, fun h => by cases h⟩

theorem over : Rows.FnExactSameRowsSaid :=
  OpenClaim.holds_of_wide 3 Try.f3 rfl rfl rfl rfl rfl rfl rfl ⟨rfl, rfl, rfl, rfl, rfl⟩ rfl rfl rfl rfl rfl (by kernel_rfl) Try.func3 (by kernel_rfl)
    (of_decide_eq_true (by kernel_rfl)) (by unfold Func.isWrapper; first | (rw [if_pos (by decide +kernel)]; kernel_rfl) | (rw [if_neg (by decide +kernel)]; exact ⟨rfl, rfl⟩))
    (fun os started H enc _ => lifted os started H enc)
end Go.Proofs.Ytodmbdfhcghdpak.lawSameRows
namespace Go.Proofs.Ytodmbdfhcghdpak
theorem fnExactSameRows_holds : Rows.FnExactSameRowsSaid := lawSameRows.over
#print axioms fnExactSameRows_holds
end Go.Proofs.Ytodmbdfhcghdpak
