/- For every batch the landed BatchOk answers as the given one does, and leaves the batch as it was: 'FnExactBatchOk' returns true at every argument, with no condition; its argument reads afterwards as it read before. -/
import Derived.Test.YtikccmgpmbnkfaaBk
import Derived.Test.YtikccmgpmbnkfaaGr
import Derived.Test.YtikccmgpmbnkfaaOrd
namespace Go.Proofs.Ytikccmgpmbnkfaa.lawBatchOk
open Go.ChangeShapes Go.WideShapes Go.ChangeAt Go.RowKit

set_option maxRecDepth 100000 in
set_option maxHeartbeats 2000000 in
theorem walk (x : Array Value) (t : Btc) (w : World) (hx : BatV w x t) (hf : t.fit) :
    Calls Try.prog 3 #[.agg x] w fun e w' => e = .returned (.bool true) ∧ Below w.heap.size w w' := by
  obtain ⟨a, p, rfl, hx⟩ := hx
  have HX : Hid (BatV w #[.int .i64 t.lsn, .int .i64 t.prev, .slice a t.parts.length p] t) := ⟨_, _, rfl, hx⟩
  have HF : Hid t.fit := hf
  have HL := Loc.new w #[.int .i64 t.lsn, .int .i64 t.prev, .slice a t.parts.length p] 24
  have hbv : Below w.heap.size w (w.alloc (.cells #[.int .i64 t.lsn, .int .i64 t.prev, .slice a t.parts.length p] 24)) := (by repeat (first | with_reducible exact Below.refl _ _ | with_reducible assumption | with_reducible refine ch_alloc ?_ _ | with_reducible refine Below.drew ?_ | with_reducible refine below_draws _ ?_ | (with_reducible refine Below.setCell ?_ ?_ _; rotate_left; focus (first | with_reducible exact Nat.le_refl _ | (simp; done) | (simp; omega) | (simp at *; omega))) | with_reducible refine ch_trans ?_ (by with_reducible assumption)))
  clear hx hf
  go_enter Try.func3, Try.ntmps3
  go_wp2_with fail
  refine (szBatch_any _ t _ _ (HX.out.on hbv) HF.out (by omega) (by omega)).mono ?_
  rintro e w1 ⟨r, rfl, b1, hr⟩
  have HL1 := HL.on b1
  have hb1 := ch_trans hbv b1
  clear b1 hbv HL
  obtain ⟨c0, c1, c2⟩ := HL1.three
  rcases hr with rfl | ⟨r0, r1, few⟩
  · go_wp2
    go_ret
    exact ⟨rfl, hb1⟩
  have FEW : Hid t.few := few
  have HTO : Hid (∀ u : World, Below w.heap.size w u → Calls Try.prog 8 #[.agg #[.int .i64 t.lsn, .int .i64 t.prev, .slice a t.parts.length p]] u fun e w' => ∃ a2 q2, e = .returned (.agg #[.int .i64 t.lsn, .int .i64 t.prev, .slice a2 t.parts.length q2]) ∧ Below u.heap.size u w' ∧ PartsV w' (.slice a2 t.parts.length q2) t.parts) := fun u hu => (toBatch_full _ t u (HX.out.on hu) FEW.out).mono fun e w' ⟨y, h1, h2, h3⟩ => by
    obtain ⟨a2, q2, rfl, h4⟩ := h3.out.1.lit
    exact ⟨a2, q2, h1, h2, h3.out.1⟩
  clear few
  go_wp2_with fail
  refine (HTO.out _ hb1).mono ?_
  rintro e w2 ⟨a2, q2, rfl, b2, hy⟩
  have HY2 : Hid (PartsV w2 (.slice a2 t.parts.length q2) t.parts) := hy
  have HL2 := HL1.on b2
  have hb2 := ch_trans hb1 b2
  clear hy b2 hb1 HL1 c0 c1 c2
  obtain ⟨c0, c1, c2⟩ := HL2.three
  go_wp2_with fail
  refine (batchOk_spec _ t _ ⟨_, _, rfl, HY2.out⟩ HF.out).mono ?_
  rintro e w3 ⟨q, rfl, hq, b3⟩
  have HQ : Hid (q = true ↔ t.right) := hq
  have HL3 := HL2.on b3
  have hb3 := ch_trans hb2 b3
  clear c0 c1 c2 hq b3 hb2 HL2
  obtain ⟨c0, c1, c2⟩ := HL3.three
  go_wp2_with fail
  refine (HTO.out _ hb3).mono ?_
  rintro e w4 ⟨a4, q4, rfl, b4, hy⟩
  have HX4 : Hid (PartsV w4 (.slice a4 t.parts.length q4) t.parts) := hy
  have HL4 := HL3.on b4
  have HM4 := Loc.new w4 #[.int .i64 t.lsn, .int .i64 t.prev, .slice a4 t.parts.length q4] 29
  have hb4 := ch_trans hb3 b4
  have hbv : Below w4.heap.size w4 (w4.alloc (.cells #[.int .i64 t.lsn, .int .i64 t.prev, .slice a4 t.parts.length q4] 29)) := (by repeat (first | with_reducible exact Below.refl _ _ | with_reducible assumption | with_reducible refine ch_alloc ?_ _ | with_reducible refine Below.drew ?_ | with_reducible refine below_draws _ ?_ | (with_reducible refine Below.setCell ?_ ?_ _; rotate_left; focus (first | with_reducible exact Nat.le_refl _ | (simp; done) | (simp; omega) | (simp at *; omega))) | with_reducible refine ch_trans ?_ (by with_reducible assumption)))
  clear c0 c1 c2 hy b4 hb3 HL3
  obtain ⟨c0, c1, c2⟩ := HL4.three
  go_wp2_with fail
  refine (batchOk_impl _ t _ ⟨_, _, rfl, HX4.out.on hbv⟩ HF.out).mono ?_
  rintro e w5 ⟨q', rfl, hq', b5⟩
  obtain rfl : q' = q := Bool.eq_iff_iff.2 (hq'.trans HQ.out.symm)
  clear hq' HQ
  have hv5 := ch_trans hbv b5
  have hb5 := ch_trans hb4 hv5
  have HL5 := HL4.on hv5
  have HM5 := HM4.on b5
  have HX5 : Hid (PartsV w5 (.slice a4 t.parts.length q4) t.parts) := HX4.out.on hv5
  clear c0 c1 c2 hbv b5 hv5 hb4 HL4 HM4 HX4
  obtain ⟨c0, c1, c2⟩ := HL5.three
  obtain ⟨d0, d1, d2⟩ := HM5.three
  cases q'
  all_goals
    go_wp2_with fail
    go_region_with (first
      | (go_at_call 8; refine (HTO.out _ (by repeat (first | with_reducible exact Below.refl _ _ | with_reducible assumption | with_reducible refine ch_alloc ?_ _ | with_reducible refine Below.drew ?_ | with_reducible refine below_draws _ ?_ | (with_reducible refine Below.setCell ?_ ?_ _; rotate_left; focus (first | with_reducible exact Nat.le_refl _ | (simp; done) | (simp; omega) | (simp at *; omega))) | with_reducible refine ch_trans ?_ (by with_reducible assumption)))).mono ?_; rintro e w6 ⟨a6, q6, rfl, b6, hy⟩; have HM6 := HM5.on (w' := w6) (by repeat (first | with_reducible exact Below.refl _ _ | with_reducible assumption | with_reducible refine ch_alloc ?_ _ | with_reducible refine Below.drew ?_ | with_reducible refine below_draws _ ?_ | (with_reducible refine Below.setCell ?_ ?_ _; rotate_left; focus (first | with_reducible exact Nat.le_refl _ | (simp; done) | (simp; omega) | (simp at *; omega))) | with_reducible refine ch_trans ?_ (by with_reducible assumption))); obtain ⟨f0, f1, f2⟩ := HM6.three; have HY : Hid (PartsV w6 (.slice a6 t.parts.length q6) t.parts) := hy; clear hy)
      | (go_at_call 10; refine (eqBatch_same _ _ t _ ⟨_, _, rfl, HX5.out.on (by repeat (first | with_reducible exact Below.refl _ _ | with_reducible assumption | with_reducible refine ch_alloc ?_ _ | with_reducible refine Below.drew ?_ | with_reducible refine below_draws _ ?_ | (with_reducible refine Below.setCell ?_ ?_ _; rotate_left; focus (first | with_reducible exact Nat.le_refl _ | (simp; done) | (simp; omega) | (simp at *; omega))) | with_reducible refine ch_trans ?_ (by with_reducible assumption)))⟩ ⟨_, _, rfl, HY.out.on (by repeat (first | with_reducible exact Below.refl _ _ | with_reducible assumption | with_reducible refine ch_alloc ?_ _ | with_reducible refine Below.drew ?_ | with_reducible refine below_draws _ ?_ | (with_reducible refine Below.setCell ?_ ?_ _; rotate_left; focus (first | with_reducible exact Nat.le_refl _ | (simp; done) | (simp; omega) | (simp at *; omega))) | with_reducible refine ch_trans ?_ (by with_reducible assumption)))⟩).mono ?_; rintro e w7 ⟨rfl, b7⟩))
    all_goals
      go_wp2
      go_ret
      exact ⟨rfl, (by repeat (first | with_reducible exact Below.refl _ _ | with_reducible assumption | with_reducible refine ch_alloc ?_ _ | with_reducible refine Below.drew ?_ | with_reducible refine below_draws _ ?_ | (with_reducible refine Below.setCell ?_ ?_ _; rotate_left; focus (first | with_reducible exact Nat.le_refl _ | (simp; done) | (simp; omega) | (simp at *; omega))) | with_reducible refine ch_trans ?_ (by with_reducible assumption)))⟩

theorem own : ownKnob Try.prog.godebug = none := by kernel_rfl
theorem laidOut : laidOutB Try.prog = true := by kernel_rfl

set_option maxRecDepth 100000 in
theorem lifted (os : Os) (started : os.Started) (H : Type) (enc : TypeId × Value → H) :
    ReturnsInHanded {} Try.checked os 3 .any (Rows.fnExactBatchOkSpec.pre6 enc Try.prog Try.f3 Rows.fnExactBatchOkRow.domain false) (Rows.fnExactBatchOkSpec.post enc Try.prog Try.f3 false true false false) := by
  refine returnsInHanded_of_change (C := Try.checked) own started (by kernel_rfl) Try.func3
    (ChangeSpec.witness6 (enc := enc) (C := Try.checked) false ⟨#[], #[.agg #[.int .i64 0, .int .i64 0, .slice none 0 0]], []⟩ 8 (by kernel_rfl) (by kernel_rfl) (by kernel_rfl) (by kernel_rfl)) ?_
  intro W base args ds gs before hval0 hW _ _
  have hval : ∀ (j : Nat) t v, Try.f3.params[j]? = some t → args[j]? = some v → Value.okWide Try.prog W .any base t v := hval0
  have hW' := hW
  obtain ⟨p, q, hA0, hV, rfl, _, _⟩ := hW
  have hA : DataW.TrodAll enc Try.prog W 0 (fun _ => true) true Try.f3.params.toList args.toList ds p := hA0
  rw [Try.params3] at hA hval
  obtain ⟨v0, d0, rfl, rfl, h0⟩ := trodAll_one hA
  obtain ⟨rfl, rfl⟩ := trodVars_none hV
  have h0k := h0
  obtain ⟨cs, rfl, hsz⟩ := okWide_struct Try.underlying24 (hval 0 24 v0 rfl rfl)
  obtain ⟨k, hk⟩ := h0
  obtain ⟨x, t, hc, hx, hf⟩ := open_batch hk
  have hc' : cs = x := by apply Array.toList_inj.1; simpa [Value.cells] using hc
  subst hc'
  clear hA0 hval0
  simp only [List.append_nil] at hW'
  have hlt : ∀ x ∈ p, x.block < W.heap.size := fun x hx => by simpa using hW'.lt x (by simpa using hx)
  refine (walk cs t W hx hf).mono fun e W' ⟨he, bel⟩ => ?_
  subst he
  exact ⟨_, rfl, _, _, _, [], _, [], hW', trodAll_mk1 (shut_bool Try.underlying4 _), trodAll_mk1 (Below.trod laidOut (by kernel_rfl) (of_decide_eq_true (by kernel_rfl)) h0k bel hlt), rfl, bel.frame _, fun h => by cases h⟩

theorem over : Rows.FnExactBatchOkSaid :=
  OpenClaim.holds_of_wide 3 Try.f3 rfl rfl rfl rfl rfl rfl rfl ⟨rfl, rfl, rfl, rfl, rfl⟩ rfl rfl rfl rfl rfl (by kernel_rfl) Try.func3 (by kernel_rfl)
    (of_decide_eq_true (by kernel_rfl)) (by unfold Func.isWrapper; first | (rw [if_pos (by decide +kernel)]; kernel_rfl) | (rw [if_neg (by decide +kernel)]; exact ⟨rfl, rfl⟩))
    (fun os started H enc _ => lifted os started H enc)
end Go.Proofs.Ytikccmgpmbnkfaa.lawBatchOk
namespace Go.Proofs.Ytikccmgpmbnkfaa
theorem fnExactBatchOk_holds : Rows.FnExactBatchOkSaid := lawBatchOk.over
#print axioms fnExactBatchOk_holds
end Go.Proofs.Ytikccmgpmbnkfaa
