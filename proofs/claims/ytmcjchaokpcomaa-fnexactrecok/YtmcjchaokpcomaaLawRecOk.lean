/- For every record the landed RecOk answers as the given one does, and leaves the record as it was: 'FnExactRecOk' returns true at every argument, with no condition; its argument reads afterwards as it read before. -/
import Derived.Test.YtmcjchaokpcomaaRecO
import Derived.Test.YtmcjchaokpcomaaRd
import Derived.Test.YtmcjchaokpcomaaOpenL
namespace Go.Proofs.Ytmcjchaokpcomaa.lawRecOk
open Go.ChangeShapes Go.WideShapes Go.ChangeAt Go.RowKit

set_option maxRecDepth 100000 in
set_option maxHeartbeats 1000000 in
theorem walk (x : Array Value) (t : Lc) (w : World) (hx : RecV w x t) (hf : t.fit) :
    Calls Try.prog 3 #[.agg x] w fun e w' => e = .returned (.bool true) ∧ Below w.heap.size w w' := by
  obtain ⟨ka, kp, ra, rp, ca, cp, oa, op, e0, _⟩ := hx.lit
  subst e0
  have HX : Hid (RecV w #[.int .i64 t.kind, .int .i64 t.xid, .int .i64 t.st.kind, .string t.st.table, .slice ka t.st.key.length kp, .slice ra t.st.row.length rp, .int .i64 t.st.ddl.kind, .string t.st.ddl.table, .slice ca t.st.ddl.cols.length cp, .slice oa t.st.ddl.keys.length op, .string t.st.ddl.name, .string t.st.ddl.to] t) := hx
  have HF : Hid t.fit := hf
  have HL := Loc.new w #[.int .i64 t.kind, .int .i64 t.xid, .int .i64 t.st.kind, .string t.st.table, .slice ka t.st.key.length kp, .slice ra t.st.row.length rp, .int .i64 t.st.ddl.kind, .string t.st.ddl.table, .slice ca t.st.ddl.cols.length cp, .slice oa t.st.ddl.keys.length op, .string t.st.ddl.name, .string t.st.ddl.to] 32
  have hbv : Below w.heap.size w (w.alloc (.cells #[.int .i64 t.kind, .int .i64 t.xid, .int .i64 t.st.kind, .string t.st.table, .slice ka t.st.key.length kp, .slice ra t.st.row.length rp, .int .i64 t.st.ddl.kind, .string t.st.ddl.table, .slice ca t.st.ddl.cols.length cp, .slice oa t.st.ddl.keys.length op, .string t.st.ddl.name, .string t.st.ddl.to] 32)) := (by repeat (first | with_reducible exact Below.refl _ _ | with_reducible assumption | with_reducible refine ch_alloc ?_ _ | with_reducible refine Below.drew ?_ | with_reducible refine below_draws _ ?_ | (with_reducible refine Below.setCell ?_ ?_ _; rotate_left; focus (first | with_reducible exact Nat.le_refl _ | (simp; done) | (simp; omega) | (simp at *; omega))) | with_reducible refine ch_trans ?_ (by with_reducible assumption)))
  clear hx hf
  go_enter Try.func3, Try.ntmps3
  go_wp2_with fail
  refine (szRec_any _ t _ _ (HX.out.on hbv) HF.out (by omega) (by omega)).mono ?_
  rintro e w1 ⟨r, rfl, b1, hr⟩
  have HL1 := HL.on b1
  have hb1 := ch_trans hbv b1
  clear b1 hbv HL
  obtain ⟨c0, c1, c2, c3, c4, c5, c6, c7, c8, c9, c10, c11⟩ := HL1.twelve
  rcases hr with rfl | ⟨r0, r1, few⟩
  · go_wp2
    go_ret
    exact ⟨rfl, hb1⟩
  have FEW : Hid t.few := few
  clear few
  go_wp2_with fail
  refine (toRec_any _ t _ (HX.out.on hb1) FEW.out).mono ?_
  rintro e w2 ⟨y, rfl, b2, hy⟩
  have HY2 : Hid (RecV w2 y t) := hy.out
  have HL2 := HL1.on b2
  have hb2 := ch_trans hb1 b2
  clear c0 c1 c2 c3 c4 c5 c6 c7 c8 c9 c10 c11 hy b2 hb1 HL1
  obtain ⟨c0, c1, c2, c3, c4, c5, c6, c7, c8, c9, c10, c11⟩ := HL2.twelve
  go_wp2_with fail
  refine (recOk_spec _ t _ HY2.out HF.out).mono ?_
  rintro e w3 ⟨q, rfl, hq, b3⟩
  have HQ : Hid (q = true ↔ t.right) := hq
  have HL3 := HL2.on b3
  have hb3 := ch_trans hb2 b3
  clear c0 c1 c2 c3 c4 c5 c6 c7 c8 c9 c10 c11 hq b3 hb2 HL2
  obtain ⟨c0, c1, c2, c3, c4, c5, c6, c7, c8, c9, c10, c11⟩ := HL3.twelve
  go_wp2_with fail
  refine (toRec_any _ t _ (HX.out.on hb3) FEW.out).mono ?_
  rintro e w4 ⟨y, rfl, b4, hy⟩
  obtain ⟨ka4, kp4, ra4, rp4, ca4, cp4, oa4, op4, e4, _⟩ := hy.out.lit
  subst e4
  have HX4 : Hid (RecV w4 #[.int .i64 t.kind, .int .i64 t.xid, .int .i64 t.st.kind, .string t.st.table, .slice ka4 t.st.key.length kp4, .slice ra4 t.st.row.length rp4, .int .i64 t.st.ddl.kind, .string t.st.ddl.table, .slice ca4 t.st.ddl.cols.length cp4, .slice oa4 t.st.ddl.keys.length op4, .string t.st.ddl.name, .string t.st.ddl.to] t) := hy.out
  have HL4 := HL3.on b4
  have HM4 := Loc.new w4 #[.int .i64 t.kind, .int .i64 t.xid, .int .i64 t.st.kind, .string t.st.table, .slice ka4 t.st.key.length kp4, .slice ra4 t.st.row.length rp4, .int .i64 t.st.ddl.kind, .string t.st.ddl.table, .slice ca4 t.st.ddl.cols.length cp4, .slice oa4 t.st.ddl.keys.length op4, .string t.st.ddl.name, .string t.st.ddl.to] 44
  have hb4 := ch_trans hb3 b4
  have hbv : Below w4.heap.size w4 (w4.alloc (.cells #[.int .i64 t.kind, .int .i64 t.xid, .int .i64 t.st.kind, .string t.st.table, .slice ka4 t.st.key.length kp4, .slice ra4 t.st.row.length rp4, .int .i64 t.st.ddl.kind, .string t.st.ddl.table, .slice ca4 t.st.ddl.cols.length cp4, .slice oa4 t.st.ddl.keys.length op4, .string t.st.ddl.name, .string t.st.ddl.to] 44)) := (by repeat (first | with_reducible exact Below.refl _ _ | with_reducible assumption | with_reducible refine ch_alloc ?_ _ | with_reducible refine Below.drew ?_ | with_reducible refine below_draws _ ?_ | (with_reducible refine Below.setCell ?_ ?_ _; rotate_left; focus (first | with_reducible exact Nat.le_refl _ | (simp; done) | (simp; omega) | (simp at *; omega))) | with_reducible refine ch_trans ?_ (by with_reducible assumption)))
  clear c0 c1 c2 c3 c4 c5 c6 c7 c8 c9 c10 c11 hy b4 hb3 HL3
  obtain ⟨c0, c1, c2, c3, c4, c5, c6, c7, c8, c9, c10, c11⟩ := HL4.twelve
  go_wp2_with fail
  refine (recOk_impl _ t _ (HX4.out.on hbv) HF.out).mono ?_
  rintro e w5 ⟨q', rfl, hq', b5⟩
  obtain rfl : q' = q := Bool.eq_iff_iff.2 (hq'.trans HQ.out.symm)
  clear hq' HQ
  have hv5 := ch_trans hbv b5
  have hb5 := ch_trans hb4 hv5
  have HL5 := HL4.on hv5
  have HM5 := HM4.on b5
  have HX5 : Hid (RecV w5 #[.int .i64 t.kind, .int .i64 t.xid, .int .i64 t.st.kind, .string t.st.table, .slice ka4 t.st.key.length kp4, .slice ra4 t.st.row.length rp4, .int .i64 t.st.ddl.kind, .string t.st.ddl.table, .slice ca4 t.st.ddl.cols.length cp4, .slice oa4 t.st.ddl.keys.length op4, .string t.st.ddl.name, .string t.st.ddl.to] t) := HX4.out.on hv5
  clear c0 c1 c2 c3 c4 c5 c6 c7 c8 c9 c10 c11 hbv b5 hv5 hb4 HL4 HM4 HX4
  obtain ⟨c0, c1, c2, c3, c4, c5, c6, c7, c8, c9, c10, c11⟩ := HL5.twelve
  obtain ⟨d0, d1, d2, d3, d4, d5, d6, d7, d8, d9, d10, d11⟩ := HM5.twelve
  cases q'
  all_goals
    go_wp2_with fail
    go_region_with (first
      | (go_at_call 9; refine (toRec_any _ t _ (HX.out.on (by repeat (first | with_reducible exact Below.refl _ _ | with_reducible assumption | with_reducible refine ch_alloc ?_ _ | with_reducible refine Below.drew ?_ | with_reducible refine below_draws _ ?_ | (with_reducible refine Below.setCell ?_ ?_ _; rotate_left; focus (first | with_reducible exact Nat.le_refl _ | (simp; done) | (simp; omega) | (simp at *; omega))) | with_reducible refine ch_trans ?_ (by with_reducible assumption)))) FEW.out).mono ?_; rintro e w6 ⟨y, rfl, b6, hy⟩; have HM6 := HM5.on (w' := w6) (by repeat (first | with_reducible exact Below.refl _ _ | with_reducible assumption | with_reducible refine ch_alloc ?_ _ | with_reducible refine Below.drew ?_ | with_reducible refine below_draws _ ?_ | (with_reducible refine Below.setCell ?_ ?_ _; rotate_left; focus (first | with_reducible exact Nat.le_refl _ | (simp; done) | (simp; omega) | (simp at *; omega))) | with_reducible refine ch_trans ?_ (by with_reducible assumption))); obtain ⟨f0, f1, f2, f3, f4, f5, f6, f7, f8, f9, f10, f11⟩ := HM6.twelve; have HY : Hid (RecV w6 y t) := hy.out; clear hy)
      | (go_at_call 11; refine (eqRec_same _ _ t _ (HX5.out.on (by repeat (first | with_reducible exact Below.refl _ _ | with_reducible assumption | with_reducible refine ch_alloc ?_ _ | with_reducible refine Below.drew ?_ | with_reducible refine below_draws _ ?_ | (with_reducible refine Below.setCell ?_ ?_ _; rotate_left; focus (first | with_reducible exact Nat.le_refl _ | (simp; done) | (simp; omega) | (simp at *; omega))) | with_reducible refine ch_trans ?_ (by with_reducible assumption)))) (HY.out.on (by repeat (first | with_reducible exact Below.refl _ _ | with_reducible assumption | with_reducible refine ch_alloc ?_ _ | with_reducible refine Below.drew ?_ | with_reducible refine below_draws _ ?_ | (with_reducible refine Below.setCell ?_ ?_ _; rotate_left; focus (first | with_reducible exact Nat.le_refl _ | (simp; done) | (simp; omega) | (simp at *; omega))) | with_reducible refine ch_trans ?_ (by with_reducible assumption))))).mono ?_; rintro e w7 ⟨rfl, b7⟩))
    all_goals
      go_wp2
      go_ret
      exact ⟨rfl, (by repeat (first | with_reducible exact Below.refl _ _ | with_reducible assumption | with_reducible refine ch_alloc ?_ _ | with_reducible refine Below.drew ?_ | with_reducible refine below_draws _ ?_ | (with_reducible refine Below.setCell ?_ ?_ _; rotate_left; focus (first | with_reducible exact Nat.le_refl _ | (simp; done) | (simp; omega) | (simp at *; omega))) | with_reducible refine ch_trans ?_ (by with_reducible assumption)))⟩

theorem own : ownKnob Try.prog.godebug = none := by kernel_rfl
theorem laidOut : laidOutB Try.prog = true := by kernel_rfl

set_option maxRecDepth 100000 in
theorem lifted (os : Os) (started : os.Started) (H : Type) (enc : TypeId × Value → H) :
    ReturnsInHanded {} Try.checked os 3 .any (Rows.fnExactRecOkSpec.pre6 enc Try.prog Try.f3 Rows.fnExactRecOkRow.domain false) (Rows.fnExactRecOkSpec.post enc Try.prog Try.f3 false true false false) := by
  refine returnsInHanded_of_change (C := Try.checked) own started (by kernel_rfl) Try.func3
    (ChangeSpec.witness6 (enc := enc) (C := Try.checked) false ⟨#[], #[.agg #[.int .i64 0, .int .i64 0, .int .i64 0, .string ByteArray.empty, .slice none 0 0, .slice none 0 0, .int .i64 0, .string ByteArray.empty, .slice none 0 0, .slice none 0 0, .string ByteArray.empty, .string ByteArray.empty]], []⟩ 8 (by kernel_rfl) (by kernel_rfl) (by kernel_rfl) (by kernel_rfl)) ?_
  intro W base args ds gs before hval0 hW _ _
  have hval : ∀ (j : Nat) t v, Try.f3.params[j]? = some t → args[j]? = some v → Value.okWide Try.prog W .any base t v := hval0
  have hW' := hW
  obtain ⟨p, q, hA0, hV, rfl, _, _⟩ := hW
  have hA : DataW.TrodAll enc Try.prog W 0 (fun _ => true) true Try.f3.params.toList args.toList ds p := hA0
  rw [Try.params3] at hA hval
  obtain ⟨v0, d0, rfl, rfl, h0⟩ := trodAll_one hA
  obtain ⟨rfl, rfl⟩ := trodVars_none hV
  have h0k := h0
  obtain ⟨cs, rfl, hsz⟩ := okWide_struct Try.underlying32 (hval 0 32 v0 rfl rfl)
  obtain ⟨k, hk⟩ := h0
  obtain ⟨x, t, hc, hx, hf⟩ := open_rec hk
  have hc' : cs = x := by apply Array.toList_inj.1; simpa [Value.cells] using hc
  subst hc'
  clear hA0 hval0
  simp only [List.append_nil] at hW'
  have hlt : ∀ x ∈ p, x.block < W.heap.size := fun x hx => by simpa using hW'.lt x (by simpa using hx)
  refine (walk cs t W hx hf).mono fun e W' ⟨he, bel⟩ => ?_
  subst he
  exact ⟨_, rfl, _, _, _, [], _, [], hW', trodAll_mk1 (shut_bool Try.underlying4 _), trodAll_mk1 (Below.trod laidOut (by kernel_rfl) (of_decide_eq_true (by kernel_rfl)) h0k bel hlt), rfl, bel.frame _, fun h => by cases h⟩

theorem over : Rows.FnExactRecOkSaid :=
  OpenClaim.holds_of_wide 3 Try.f3 rfl rfl rfl rfl rfl rfl rfl ⟨rfl, rfl, rfl, rfl, rfl⟩ rfl rfl rfl rfl rfl (by kernel_rfl) Try.func3 (by kernel_rfl)
    (of_decide_eq_true (by kernel_rfl)) (by unfold Func.isWrapper; first | (rw [if_pos (by decide +kernel)]; kernel_rfl) | (rw [if_neg (by decide +kernel)]; exact ⟨rfl, rfl⟩))
    (fun os started H enc _ => lifted os started H enc)
end Go.Proofs.Ytmcjchaokpcomaa.lawRecOk
namespace Go.Proofs.Ytmcjchaokpcomaa
theorem fnExactRecOk_holds : Rows.FnExactRecOkSaid := lawRecOk.over
#print axioms fnExactRecOk_holds
end Go.Proofs.Ytmcjchaokpcomaa
