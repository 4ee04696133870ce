/- For every table and every list of values the landed KeyOk answers as the given one does, and leaves both as they were: 'FnExactKeyOk' returns true at all arguments, with no condition; its arguments read afterwards as they read before. -/
import Derived.Test.YtodmbdfhcghdpaiKkI
import Derived.Test.YtodmbdfhcghdpaiOpenT
import Derived.Test.YtodmbdfhcghdpaiOpenV
import Derived.Deep.RegionWith
import Derived.Deep.DeepCutAuto
namespace Go.Proofs.Ytodmbdfhcghdpai.lawKeyOk
open Go.ChangeShapes Go.WideShapes Go.ChangeAt Go.RowKit

set_option maxRecDepth 100000 in
set_option maxHeartbeats 2000000 in
theorem walk (x : Array Value) (y : Value) (t : Tc) (vs : List Vc) (w : World) (hx : TabV w x t) (hy : ValsV w y vs) (hfs : t.fit) (hft : vfit vs) :
    Calls Try.prog 6 #[.agg x, y] w fun e w' => e = .returned (.bool true) ∧ Below w.heap.size w w' := by
  obtain ⟨a, p, o, z, rfl, hx, _, _⟩ := hx.lit
  obtain ⟨b, q, rfl, _, _, hy⟩ := hy.lit
  have HX : Hid (TabV w #[.string t.name, .slice a t.cols.length p, .slice o t.keys.length z] t) := hx
  have HY : Hid (ValsV w (.slice b vs.length q) vs) := hy
  have HF : Hid (t.fit ∧ vfit vs) := ⟨hfs, hft⟩
  have HL := Loc.new w #[.string t.name, .slice a t.cols.length p, .slice o t.keys.length z] 25
  clear hx hy hfs hft
  go_enter Try.func6, Try.ntmps6
  go_wp2_with fail
  refine (szTable_any _ t _ _ (HX.out.on (w' := (w.alloc (.cells #[.string t.name, .slice a t.cols.length p, .slice o t.keys.length z] 25))) (by repeat (first | with_reducible exact Below.refl _ _ | with_reducible assumption | with_reducible refine ch_alloc ?_ _ | with_reducible refine Below.drew ?_ | with_reducible refine below_draws _ ?_ | (with_reducible refine Below.setCell ?_ ?_ _; rotate_left; focus (first | with_reducible exact Nat.le_refl _ | (simp; done) | (simp; omega) | (simp at *; omega))) | with_reducible refine ch_trans ?_ (by with_reducible assumption)))) HF.out.1 (by omega) (by omega)).mono ?_
  rintro e w1 ⟨r, rfl, b1, hr⟩
  have HL1 := HL.on (w' := w1) (by repeat (first | with_reducible exact Below.refl _ _ | with_reducible assumption | with_reducible refine ch_alloc ?_ _ | with_reducible refine Below.drew ?_ | with_reducible refine below_draws _ ?_ | (with_reducible refine Below.setCell ?_ ?_ _; rotate_left; focus (first | with_reducible exact Nat.le_refl _ | (simp; done) | (simp; omega) | (simp at *; omega))) | with_reducible refine ch_trans ?_ (by with_reducible assumption)))
  obtain ⟨c0, c1, c2⟩ := HL1.three
  rcases hr with rfl | ⟨r0, r1, fews⟩
  · go_wp2
    go_ret
    exact ⟨rfl, (by repeat (first | with_reducible exact Below.refl _ _ | with_reducible assumption | with_reducible refine ch_alloc ?_ _ | with_reducible refine Below.drew ?_ | with_reducible refine below_draws _ ?_ | (with_reducible refine Below.setCell ?_ ?_ _; rotate_left; focus (first | with_reducible exact Nat.le_refl _ | (simp; done) | (simp; omega) | (simp at *; omega))) | with_reducible refine ch_trans ?_ (by with_reducible assumption)))⟩
  go_wp2_with fail
  refine (szValS_any _ vs r _ (HY.out.on (w' := w1) (by repeat (first | with_reducible exact Below.refl _ _ | with_reducible assumption | with_reducible refine ch_alloc ?_ _ | with_reducible refine Below.drew ?_ | with_reducible refine below_draws _ ?_ | (with_reducible refine Below.setCell ?_ ?_ _; rotate_left; focus (first | with_reducible exact Nat.le_refl _ | (simp; done) | (simp; omega) | (simp at *; omega))) | with_reducible refine ch_trans ?_ (by with_reducible assumption)))) HF.out.2 (by omega) (by omega)).mono ?_
  rintro e w2 ⟨r', rfl, b2, hr'⟩
  have HL2 := HL1.on b2
  clear c0 c1 c2
  obtain ⟨c0, c1, c2⟩ := HL2.three
  rcases hr' with rfl | ⟨r0', r1', fewt⟩
  · go_wp2
    go_ret
    exact ⟨rfl, (by repeat (first | with_reducible exact Below.refl _ _ | with_reducible assumption | with_reducible refine ch_alloc ?_ _ | with_reducible refine Below.drew ?_ | with_reducible refine below_draws _ ?_ | (with_reducible refine Below.setCell ?_ ?_ _; rotate_left; focus (first | with_reducible exact Nat.le_refl _ | (simp; done) | (simp; omega) | (simp at *; omega))) | with_reducible refine ch_trans ?_ (by with_reducible assumption)))⟩
  obtain ⟨qz, hqz⟩ := bool_of' (keyRight t vs)
  have hmt : vs.length ≤ maxLen := by unfold maxLen; omega
  have HSS : Hid (∀ (u : World) (X : Array Value) (Y : Value), TabV u X t → ValsV u Y vs → Calls Try.prog 26 #[.agg X, Y] u fun e w' => e = .returned (.bool qz) ∧ Below u.heap.size u w') := fun u X Y h1 h2 => (keyOk_spec X t Y vs u h1 h2 HF.out.1).mono fun e w' ⟨q, h3, h4, h5⟩ => ⟨by rw [h3, Bool.eq_iff_iff.2 (h4.trans hqz.symm)], h5⟩
  have HSI : Hid (∀ (u : World) (X : Array Value) (Y : Value), TabV u X t → ValsV u Y vs → Calls Try.prog 28 #[.agg X, Y] u fun e w' => e = .returned (.bool qz) ∧ Below u.heap.size u w') := fun u X Y h1 h2 => (keyOk_impl X t Y vs u h1 h2 HF.out.1).mono fun e w' ⟨q, h3, h4, h5⟩ => ⟨by rw [h3, Bool.eq_iff_iff.2 (h4.trans hqz.symm)], h5⟩
  have HTR : Hid (∀ u : World, ValsV u (.slice b vs.length q) vs → Calls Try.prog 27 #[.slice b vs.length q] u fun e w' => ∃ c, e = .returned (.slice c vs.length vs.length) ∧ Below u.heap.size u w' ∧ ValsV w' (.slice c vs.length vs.length) vs) := fun u hu => (toValS_any _ vs u hu fewt).mono fun e w' ⟨h1, h3, h4⟩ => ⟨_, h1, h3, h4.valsV hmt⟩
  clear hqz
  have hbw2 : Below w.heap.size w w2 := (by repeat (first | with_reducible exact Below.refl _ _ | with_reducible assumption | with_reducible refine ch_alloc ?_ _ | with_reducible refine Below.drew ?_ | with_reducible refine below_draws _ ?_ | (with_reducible refine Below.setCell ?_ ?_ _; rotate_left; focus (first | with_reducible exact Nat.le_refl _ | (simp; done) | (simp; omega) | (simp at *; omega))) | with_reducible refine ch_trans ?_ (by with_reducible assumption)))
  go_wp2_with fail
  refine (toTable_any _ t _ (HX.out.on (w' := w2) (by repeat (first | with_reducible exact Below.refl _ _ | with_reducible assumption | with_reducible refine ch_alloc ?_ _ | with_reducible refine Below.drew ?_ | with_reducible refine below_draws _ ?_ | (with_reducible refine Below.setCell ?_ ?_ _; rotate_left; focus (first | with_reducible exact Nat.le_refl _ | (simp; done) | (simp; omega) | (simp at *; omega))) | with_reducible refine ch_trans ?_ (by with_reducible assumption)))) fews).mono ?_
  rintro e wa ⟨ya, rfl, ba, hya, _⟩
  have HYA : Hid (TabV wa ya t) := hya
  clear hya
  go_wp2_with fail
  refine (HTR.out _ (HY.out.on (w' := wa) (by repeat (first | with_reducible exact Below.refl _ _ | with_reducible assumption | with_reducible refine ch_alloc ?_ _ | with_reducible refine Below.drew ?_ | with_reducible refine below_draws _ ?_ | (with_reducible refine Below.setCell ?_ ?_ _; rotate_left; focus (first | with_reducible exact Nat.le_refl _ | (simp; done) | (simp; omega) | (simp at *; omega))) | with_reducible refine ch_trans ?_ (by with_reducible assumption))))).mono ?_
  rintro e wb ⟨cb, rfl, bb, hzb⟩
  have HZB : Hid (ValsV wb (.slice cb vs.length vs.length) vs) := hzb
  clear hzb
  go_wp2_with fail
  refine (HSS.out _ _ _ (HYA.out.on (w' := wb) (by repeat (first | with_reducible exact Below.refl _ _ | with_reducible assumption | with_reducible refine ch_alloc ?_ _ | with_reducible refine Below.drew ?_ | with_reducible refine below_draws _ ?_ | (with_reducible refine Below.setCell ?_ ?_ _; rotate_left; focus (first | with_reducible exact Nat.le_refl _ | (simp; done) | (simp; omega) | (simp at *; omega))) | with_reducible refine ch_trans ?_ (by with_reducible assumption)))) HZB.out).mono ?_
  rintro e wc ⟨rfl, bc⟩
  have HL3 := HL2.on (w' := wc) (by repeat (first | with_reducible exact Below.refl _ _ | with_reducible assumption | with_reducible refine ch_alloc ?_ _ | with_reducible refine Below.drew ?_ | with_reducible refine below_draws _ ?_ | (with_reducible refine Below.setCell ?_ ?_ _; rotate_left; focus (first | with_reducible exact Nat.le_refl _ | (simp; done) | (simp; omega) | (simp at *; omega))) | with_reducible refine ch_trans ?_ (by with_reducible assumption)))
  have hbc : Below w.heap.size w wc := (by repeat (first | with_reducible exact Below.refl _ _ | with_reducible assumption | with_reducible refine ch_alloc ?_ _ | with_reducible refine Below.drew ?_ | with_reducible refine below_draws _ ?_ | (with_reducible refine Below.setCell ?_ ?_ _; rotate_left; focus (first | with_reducible exact Nat.le_refl _ | (simp; done) | (simp; omega) | (simp at *; omega))) | with_reducible refine ch_trans ?_ (by with_reducible assumption)))
  clear c0 c1 c2 ba bb bc hbw2
  obtain ⟨c0, c1, c2⟩ := HL3.three
  go_wp2_with fail
  refine (toTable_any _ t _ (HX.out.on (w' := wc) hbc) fews).mono ?_
  rintro e w4 ⟨y, rfl, b4, hy, _⟩
  obtain ⟨a4, p4, o4, q4, rfl, hx4, _, _⟩ := hy.lit
  have HX4 : Hid (TabV w4 #[.string t.name, .slice a4 t.cols.length p4, .slice o4 t.keys.length q4] t) := hx4
  have HL4 := HL3.on b4
  have HN4 := Loc.new w4 #[.string t.name, .slice a4 t.cols.length p4, .slice o4 t.keys.length q4] 30
  clear c0 c1 c2 hy hx4
  go_wp2_with fail
  refine (HTR.out _ (HY.out.on (w' := w4.alloc (.cells #[.string t.name, .slice a4 t.cols.length p4, .slice o4 t.keys.length q4] 30)) (by repeat (first | with_reducible exact Below.refl _ _ | with_reducible assumption | with_reducible refine ch_alloc ?_ _ | with_reducible refine Below.drew ?_ | with_reducible refine below_draws _ ?_ | (with_reducible refine Below.setCell ?_ ?_ _; rotate_left; focus (first | with_reducible exact Nat.le_refl _ | (simp; done) | (simp; omega) | (simp at *; omega))) | with_reducible refine ch_trans ?_ (by with_reducible assumption))))).mono ?_
  rintro e w5 ⟨c5, rfl, b5, hx5⟩
  have HX5 : Hid (ValsV w5 (.slice c5 vs.length vs.length) vs) := hx5
  have HL5 := HL4.on (w' := w5) (by repeat (first | with_reducible exact Below.refl _ _ | with_reducible assumption | with_reducible refine ch_alloc ?_ _ | with_reducible refine Below.drew ?_ | with_reducible refine below_draws _ ?_ | (with_reducible refine Below.setCell ?_ ?_ _; rotate_left; focus (first | with_reducible exact Nat.le_refl _ | (simp; done) | (simp; omega) | (simp at *; omega))) | with_reducible refine ch_trans ?_ (by with_reducible assumption)))
  have HN5 := HN4.on (w' := w5) (by repeat (first | with_reducible exact Below.refl _ _ | with_reducible assumption | with_reducible refine ch_alloc ?_ _ | with_reducible refine Below.drew ?_ | with_reducible refine below_draws _ ?_ | (with_reducible refine Below.setCell ?_ ?_ _; rotate_left; focus (first | with_reducible exact Nat.le_refl _ | (simp; done) | (simp; omega) | (simp at *; omega))) | with_reducible refine ch_trans ?_ (by with_reducible assumption)))
  clear hx5
  obtain ⟨n0, n1, n2⟩ := HN5.three
  go_wp2_with fail
  refine (HSI.out _ _ _ (HX4.out.on (w' := w5) (by repeat (first | with_reducible exact Below.refl _ _ | with_reducible assumption | with_reducible refine ch_alloc ?_ _ | with_reducible refine Below.drew ?_ | with_reducible refine below_draws _ ?_ | (with_reducible refine Below.setCell ?_ ?_ _; rotate_left; focus (first | with_reducible exact Nat.le_refl _ | (simp; done) | (simp; omega) | (simp at *; omega))) | with_reducible refine ch_trans ?_ (by with_reducible assumption)))) HX5.out).mono ?_
  rintro e w6 ⟨rfl, b6⟩
  have HL6 := HL5.on (w' := w6) (by repeat (first | with_reducible exact Below.refl _ _ | with_reducible assumption | with_reducible refine ch_alloc ?_ _ | with_reducible refine Below.drew ?_ | with_reducible refine below_draws _ ?_ | (with_reducible refine Below.setCell ?_ ?_ _; rotate_left; focus (first | with_reducible exact Nat.le_refl _ | (simp; done) | (simp; omega) | (simp at *; omega))) | with_reducible refine ch_trans ?_ (by with_reducible assumption)))
  have HN6 := HN5.on (w' := w6) (by repeat (first | with_reducible exact Below.refl _ _ | with_reducible assumption | with_reducible refine ch_alloc ?_ _ | with_reducible refine Below.drew ?_ | with_reducible refine below_draws _ ?_ | (with_reducible refine Below.setCell ?_ ?_ _; rotate_left; focus (first | with_reducible exact Nat.le_refl _ | (simp; done) | (simp; omega) | (simp at *; omega))) | with_reducible refine ch_trans ?_ (by with_reducible assumption)))
  clear n0 n1 n2
  obtain ⟨c0, c1, c2⟩ := HL6.three
  obtain ⟨n0, n1, n2⟩ := HN6.three
  have hqq : (qz != qz) = false := by simp
  all_goals
    go_wp2_with fail
    go_region_with (first
      | (go_at_call 10; refine (toTable_any #[.string t.name, .slice a t.cols.length p, .slice o t.keys.length z] t _ (HX.out.on (by repeat (first | with_reducible exact Below.refl _ _ | with_reducible assumption | with_reducible refine ch_alloc ?_ _ | with_reducible refine Below.drew ?_ | with_reducible refine below_draws _ ?_ | (with_reducible refine Below.setCell ?_ ?_ _; rotate_left; focus (first | with_reducible exact Nat.le_refl _ | (simp; done) | (simp; omega) | (simp at *; omega))) | with_reducible refine ch_trans ?_ (by with_reducible assumption)))) fews).mono ?_; rintro e w7 ⟨y, rfl, b7, hy, _⟩; have HN7 := HN6.on (w' := w7) (by repeat (first | with_reducible exact Below.refl _ _ | with_reducible assumption | with_reducible refine ch_alloc ?_ _ | with_reducible refine Below.drew ?_ | with_reducible refine below_draws _ ?_ | (with_reducible refine Below.setCell ?_ ?_ _; rotate_left; focus (first | with_reducible exact Nat.le_refl _ | (simp; done) | (simp; omega) | (simp at *; omega))) | with_reducible refine ch_trans ?_ (by with_reducible assumption))); obtain ⟨f0, f1, f2⟩ := HN7.three; have HYY : Hid (TabV w7 y t) := hy; clear hy)
      | (go_at_call 12; refine (eqTable_same _ _ t _ (HX4.out.on (by repeat (first | with_reducible exact Below.refl _ _ | with_reducible assumption | with_reducible refine ch_alloc ?_ _ | with_reducible refine Below.drew ?_ | with_reducible refine below_draws _ ?_ | (with_reducible refine Below.setCell ?_ ?_ _; rotate_left; focus (first | with_reducible exact Nat.le_refl _ | (simp; done) | (simp; omega) | (simp at *; omega))) | with_reducible refine ch_trans ?_ (by with_reducible assumption)))) (HYY.out.on (by repeat (first | with_reducible exact Below.refl _ _ | with_reducible assumption | with_reducible refine ch_alloc ?_ _ | with_reducible refine Below.drew ?_ | with_reducible refine below_draws _ ?_ | (with_reducible refine Below.setCell ?_ ?_ _; rotate_left; focus (first | with_reducible exact Nat.le_refl _ | (simp; done) | (simp; omega) | (simp at *; omega))) | with_reducible refine ch_trans ?_ (by with_reducible assumption))))).mono ?_; rintro e w8 ⟨rfl, b8⟩))
    all_goals
      go_wp2_with fail
      refine (HTR.out _ (HY.out.on (w' := w8) (by repeat (first | with_reducible exact Below.refl _ _ | with_reducible assumption | with_reducible refine ch_alloc ?_ _ | with_reducible refine Below.drew ?_ | with_reducible refine below_draws _ ?_ | (with_reducible refine Below.setCell ?_ ?_ _; rotate_left; focus (first | with_reducible exact Nat.le_refl _ | (simp; done) | (simp; omega) | (simp at *; omega))) | with_reducible refine ch_trans ?_ (by with_reducible assumption))))).mono ?_
      rintro e w9 ⟨c9, rfl, b9, hz⟩
      have HZZ : Hid (ValsV w9 (.slice c9 vs.length vs.length) vs) := hz
      clear hz
      go_wp2_with fail
      refine (eqValS_same _ _ vs _ (HX5.out.on (w' := w9) (by repeat (first | with_reducible exact Below.refl _ _ | with_reducible assumption | with_reducible refine ch_alloc ?_ _ | with_reducible refine Below.drew ?_ | with_reducible refine below_draws _ ?_ | (with_reducible refine Below.setCell ?_ ?_ _; rotate_left; focus (first | with_reducible exact Nat.le_refl _ | (simp; done) | (simp; omega) | (simp at *; omega))) | with_reducible refine ch_trans ?_ (by with_reducible assumption)))) HZZ.out).mono ?_
      rintro e w10 ⟨rfl, b10⟩
      go_wp2
      go_ret
      exact ⟨rfl, (by repeat (first | with_reducible exact Below.refl _ _ | with_reducible assumption | with_reducible refine ch_alloc ?_ _ | with_reducible refine Below.drew ?_ | with_reducible refine below_draws _ ?_ | (with_reducible refine Below.setCell ?_ ?_ _; rotate_left; focus (first | with_reducible exact Nat.le_refl _ | (simp; done) | (simp; omega) | (simp at *; omega))) | with_reducible refine ch_trans ?_ (by with_reducible assumption)))⟩

theorem own : ownKnob Try.prog.godebug = none := by kernel_rfl
theorem laidOut : laidOutB Try.prog = true := by kernel_rfl

set_option maxRecDepth 100000 in
theorem lifted (os : Os) (started : os.Started) (H : Type) (enc : TypeId × Value → H) :
    ReturnsInHanded {} Try.checked os 6 .any (Rows.fnExactKeyOkSpec.pre6 enc Try.prog Try.f6 Rows.fnExactKeyOkRow.domain false) (Rows.fnExactKeyOkSpec.post enc Try.prog Try.f6 false true false false) := by
  refine returnsInHanded_of_change (C := Try.checked) own started (by kernel_rfl) Try.func6
    (ChangeSpec.witness6 (enc := enc) (C := Try.checked) false ⟨#[], #[.agg #[.string ByteArray.empty, .slice none 0 0, .slice none 0 0], .slice none 0 0], []⟩ 8 (by kernel_rfl) (by kernel_rfl) (by kernel_rfl) (by kernel_rfl)) ?_
  intro W base args ds gs before hval0 hW _ _
  have hval : ∀ (j : Nat) t v, Try.f6.params[j]? = some t → args[j]? = some v → Value.okWide Try.prog W .any base t v := hval0
  have hW' := hW
  obtain ⟨p, q, hA0, hV, rfl, _, _⟩ := hW
  have hA : DataW.TrodAll enc Try.prog W 0 (fun _ => true) true Try.f6.params.toList args.toList ds p := hA0
  rw [Try.params6] at hA hval
  obtain ⟨v0, v1, d0, d1, p0, p1, rfl, rfl, rfl, h0, h1⟩ := trodAll_two hA
  obtain ⟨rfl, rfl⟩ := trodVars_none hV
  have h0k := h0
  have h1k := h1
  obtain ⟨cs, rfl, hsz⟩ := okWide_struct Try.underlying25 (hval 0 25 v0 rfl rfl)
  obtain ⟨k, hk⟩ := h0
  obtain ⟨x, t, hc, hx, hf⟩ := open_tab hk
  have hc' : cs = x := by apply Array.toList_inj.1; simpa [Value.cells] using hc
  subst hc'
  obtain ⟨a1, len1, cap1, rfl⟩ := okWide_slice Try.underlying33 (hval 1 33 v1 rfl rfl)
  obtain ⟨k1, hk1⟩ := h1
  obtain ⟨x1, t1, hc1, hx1, hf1⟩ := open_vals hk1
  have hc1' : x1 = .slice a1 len1 cap1 := by simpa [Value.cells] using hc1.symm
  subst hc1'
  clear hA0 hval0
  simp only [List.append_nil] at hW'
  have hlt : ∀ x ∈ p0, x.block < W.heap.size := fun x hx => by simpa using hW'.lt x (by simp [hx])
  have hlt1 : ∀ x ∈ p1, x.block < W.heap.size := fun x hx => by simpa using hW'.lt x (by simp [hx])
  refine (walk cs _ t t1 W hx hx1 hf hf1).mono fun e W' ⟨he, bel⟩ => ?_
  subst he
  exact ⟨_, rfl, _, _, _, [], _, [], hW', trodAll_mk1 (shut_bool Try.underlying4 _), trodAll_mk2 (Below.trod laidOut (by kernel_rfl) (of_decide_eq_true (by kernel_rfl)) h0k bel hlt) (Below.trod laidOut (by kernel_rfl) (of_decide_eq_true (by kernel_rfl)) h1k bel hlt1), rfl, bel.frame _, fun h => by cases h⟩

theorem over : Rows.FnExactKeyOkSaid :=
  OpenClaim.holds_of_wide 6 Try.f6 rfl rfl rfl rfl rfl rfl rfl ⟨rfl, rfl, rfl, rfl, rfl⟩ rfl rfl rfl rfl rfl (by kernel_rfl) Try.func6 (by kernel_rfl)
    (of_decide_eq_true (by kernel_rfl)) (by unfold Func.isWrapper; first | (rw [if_pos (by decide +kernel)]; kernel_rfl) | (rw [if_neg (by decide +kernel)]; exact ⟨rfl, rfl⟩))
    (fun os started H enc _ => lifted os started H enc)
end Go.Proofs.Ytodmbdfhcghdpai.lawKeyOk
namespace Go.Proofs.Ytodmbdfhcghdpai
theorem fnExactKeyOk_holds : Rows.FnExactKeyOkSaid := lawKeyOk.over
#print axioms fnExactKeyOk_holds
end Go.Proofs.Ytodmbdfhcghdpai
