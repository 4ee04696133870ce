/- For every two values the landed ValLess answers as the given one does: 'FnExactValLess' returns true at every argument, with no condition; its arguments read afterwards as they read before. -/
import Derived.Test.YtmgoplamocgflafValLess
import Derived.Lib.SmallJoins
import Derived.Deep.RegionWith
import Derived.Deep.DeepCutAuto
namespace Go.Proofs.Ytmgoplamocgflaf.lawValLess
open Go.ChangeShapes Go.WideShapes Go.ChangeAt Go.RowKit Go.Joins

theorem bcell {B : Nat} {W w1 : World} (hb : Below B W w1) : (∀ b o, b < B → w1.cell? ⟨b, o, none⟩ = W.cell? ⟨b, o, none⟩) ∧ (∀ b o, b < B → w1.frozen? ⟨b, o, none⟩ = W.frozen? ⟨b, o, none⟩) :=
  ⟨fun b o h => hb.cell (p := ⟨b, o, none⟩) h, fun b o h => hb.frozen (p := ⟨b, o, none⟩) h⟩

set_option maxHeartbeats 2000000 in
theorem walk (t1 n1 : Int) (s1 : ByteArray) (t2 n2 : Int) (s2 : ByteArray) (w : World) (hs1 : s1.size ≤ maxLen) (hs2 : s2.size ≤ maxLen) :
    Calls Try.prog 4 #[V t1 n1 s1, V t2 n2 s2] w fun e w' => e = .returned (.bool true) ∧ Below w.heap.size w w' := by
  by_cases h : (1048576 : Int) < s1.size
  · go_enter Try.func4, Try.ntmps4
    go_wp2_with (go_at_call 5; refine (sz_no _ _ _ _ _ hs1 (by omega) h).mono ?_; rintro e w' ⟨rfl, rfl⟩)
    go_ret
    exact ⟨rfl, by repeat (first | exact Below.refl _ _ | (refine Below.alloc ?_ (by simp <;> omega) _))⟩
  have h' : (s1.size : Int) ≤ 1048576 := by omega
  by_cases k : (1048576 : Int) - s1.size < s2.size
  · go_enter Try.func4, Try.ntmps4
    go_wp2_with fail
    refine (sz_yes _ _ _ _ _ (by omega) h').mono ?_
    rintro e w' ⟨rfl, rfl⟩
    go_wp2_with fail
    refine (sz_no _ _ _ _ _ hs2 (by omega) k).mono ?_
    rintro e w' ⟨rfl, rfl⟩
    go_wp2
    go_ret
    exact ⟨rfl, by repeat (first | exact Below.refl _ _ | (refine Below.alloc ?_ (by simp <;> omega) _))⟩
  have k' : (s2.size : Int) ≤ 1048576 - s1.size := by omega
  clear h k
  go_enter Try.func4, Try.ntmps4
  go_wp2_with fail
  refine (sz_yes _ _ _ _ _ (by omega) h').mono ?_
  rintro e w' ⟨rfl, rfl⟩
  go_wp2_with fail
  refine (sz_yes _ _ _ _ _ (by omega) k').mono ?_
  rintro e w' ⟨rfl, rfl⟩
  go_upto_region 8 with fail
  go_cut [6] (fun v wx => v = .bool (lessB t1 n1 s1 t2 n2 s2) ∧ Below (w.heap.size + 2) ((w.alloc (cellsL t1 n1 s1)).alloc (cellsL t2 n2 s2)) wx)
  case first =>
    go_region_with (first
      | (go_at_call 7; refine (toVal_any _ _ _ _).mono ?_; rintro e w' ⟨rfl, rfl⟩)
      | (go_at_call 9; refine (less_spec _ _ _ _ _ _ _).mono ?_; rintro e w' ⟨rfl, hb⟩))
    all_goals
      go_wp2_with fail
      go_meet
      exact ⟨rfl, Below.trans (by repeat (first | exact Below.refl _ _ | refine Below.drew ?_ | refine below_draws _ ?_ | (refine Below.alloc ?_ (by simp <;> omega) _))) (hb.mono (by simp <;> omega))⟩
  case rest =>
    obtain ⟨rfl, hb0⟩ := hcut
    obtain ⟨hc, hf⟩ := bcell hb0
    have hz : w.heap.size + 2 ≤ wc.heap.size := by have := hb0.size; simp at this; omega
    have hz1 : w.heap.size < wc.heap.size := by omega
    have hz2 : w.heap.size + 1 < wc.heap.size := by omega
    go_upto_region 9 with fail
    go_cut [7] (fun v wx => v = .bool (lessB t1 n1 s1 t2 n2 s2) ∧ Below wc.heap.size wc wx)
    case first =>
      go_region_with (first
        | (go_at_call 7; refine (toVal_any _ _ _ _).mono ?_; rintro e w' ⟨rfl, rfl⟩)
        | (go_at_call 10; refine (less_impl _ _ _ _ _ _ _).mono ?_; rintro e w' ⟨rfl, hb⟩))
      all_goals
        go_wp2_with fail
        go_meet
        exact ⟨rfl, Below.trans (by repeat (first | exact Below.refl _ _ | refine Below.drew ?_ | refine below_draws _ ?_ | (refine Below.alloc ?_ (by simp <;> omega) _))) (hb.mono (by simp <;> omega))⟩
    case rest =>
      obtain ⟨rfl, hb1⟩ := hcut
      generalize lessB t1 n1 s1 t2 n2 s2 = l
      cases l
      all_goals
        go_wp2
        go_ret
        exact ⟨rfl, ((((Below.refl _ w).alloc (Nat.le_refl _) _).alloc (by simp) _).trans (hb0.mono (by omega))).trans (hb1.mono (by omega))⟩

theorem own : ownKnob Try.prog.godebug = none := by kernel_rfl
theorem cellsT : Try.prog.cellsOf 23 = 3 := by kernel_rfl

set_option maxRecDepth 100000 in
theorem lifted (os : Os) (started : os.Started) (H : Type) (enc : TypeId × Value → H) :
    ReturnsInHanded {} Try.checked os 4 .any (Rows.fnExactValLessSpec.pre6 enc Try.prog Try.f4 Rows.fnExactValLessRow.domain false) (Rows.fnExactValLessSpec.post enc Try.prog Try.f4 false true false false) := by
  refine returnsInHanded_of_change (C := Try.checked) own started (by kernel_rfl) Try.func4
    (ChangeSpec.witness6 (enc := enc) (C := Try.checked) false ⟨#[], #[.agg #[.int .i64 0, .int .i64 0, .string ByteArray.empty], .agg #[.int .i64 0, .int .i64 0, .string ByteArray.empty]], []⟩ 8 (by kernel_rfl) (by kernel_rfl) (by kernel_rfl) (by kernel_rfl)) ?_
  intro W base args ds gs before hval0 hW _ _
  have hval : ∀ (j : Nat) t v, Try.f4.params[j]? = some t → args[j]? = some v → Value.okWide Try.prog W .any base t v := hval0
  have hW' := hW
  obtain ⟨p, q, hA0, hV, rfl, _, _⟩ := hW
  have hA : DataW.TrodAll enc Try.prog W 0 (fun _ => true) true Try.f4.params.toList args.toList ds p := hA0
  rw [Try.params4] at hA hval
  obtain ⟨v0, v1, d0, d1, p0, p1, rfl, rfl, rfl, h0, h1⟩ := trodAll_two hA
  obtain ⟨rfl, rfl⟩ := trodVars_none hV
  obtain ⟨c0, c1, c2, y0, y1, y2, m, rfl, rfl, rfl, hy0, hy1, hy2⟩ := open_agg3 Try.underlying23 (by kernel_rfl) cellsT (hval 0 23 v0 rfl rfl) h0
  obtain ⟨g0, g1, g2, z0, z1, z2, m', rfl, rfl, rfl, hz0, hz1, hz2⟩ := open_agg3 Try.underlying23 (by kernel_rfl) cellsT (hval 1 23 v1 rfl rfl) h1
  obtain ⟨t1, e0, rfl, wa⟩ := DataW.trod_int Try.underlying3 hy0
  obtain ⟨n1, e1, rfl, wb⟩ := DataW.trod_int Try.underlying3 hy1
  obtain ⟨s1, e2, rfl, ws⟩ := DataW.trod_string Try.underlying9 hy2
  obtain ⟨t2, e3, rfl, wc⟩ := DataW.trod_int Try.underlying3 hz0
  obtain ⟨n2, e4, rfl, wd⟩ := DataW.trod_int Try.underlying3 hz1
  obtain ⟨s2, e5, rfl, wt⟩ := DataW.trod_string Try.underlying9 hz2
  simp at e0 e1 e2 e3 e4 e5
  subst e0 e1 e2 e3 e4 e5
  clear hA0 hval0
  simp only [List.append_nil] at hW'
  have reads : ∀ (W' : World) (sp : Nat → Bool) (ty n : Int) (s : ByteArray) (_ : (Lit.int .i64 ty).wf = true) (_ : (Lit.int .i64 n).wf = true) (_ : s.size ≤ maxLen), DataW.Trod enc Try.prog W' 0 sp true 23 (V ty n s) (.agg [.lit (.int .i64 ty), .lit (.int .i64 n), .lit (.string s.data.toList)]) [] := fun W' sp ty n s wa wb ws =>
    shut_agg3 (y0 := (.lit (.int .i64 ty), [])) (y1 := (.lit (.int .i64 n), [])) (y2 := (.lit (.string s.data.toList), [])) Try.underlying23 (by kernel_rfl) cellsT
      ⟨1, by simp [DataW.trod, Try.underlying3, wa]⟩ ⟨1, by simp [DataW.trod, Try.underlying3, wb]⟩ ⟨1, by simp [DataW.trod, Try.underlying9, ws]⟩
  refine (walk t1 n1 s1 t2 n2 s2 W ws wt).mono fun e W' ⟨he, bel⟩ => ?_
  subst he
  exact ⟨_, rfl, _, _, _, [], [], [], hW', trodAll_mk1 (shut_bool Try.underlying4 _), trodAll_mk2 (reads _ _ t1 n1 s1 wa wb ws) (reads _ _ t2 n2 s2 wc wd wt), rfl, bel.frame _, fun h => by cases h⟩

theorem over : Rows.FnExactValLessSaid :=
  OpenClaim.holds_of_wide 4 Try.f4 rfl rfl rfl rfl rfl rfl rfl ⟨rfl, rfl, rfl, rfl, rfl⟩ rfl rfl rfl rfl rfl (by kernel_rfl) Try.func4 (by kernel_rfl)
    (of_decide_eq_true (by kernel_rfl)) (by unfold Func.isWrapper; first | (rw [if_pos (by decide +kernel)]; kernel_rfl) | (rw [if_neg (by decide +kernel)]; exact ⟨rfl, rfl⟩))
    (fun os started H enc _ => lifted os started H enc)
end Go.Proofs.Ytmgoplamocgflaf.lawValLess
namespace Go.Proofs.Ytmgoplamocgflaf
theorem fnExactValLess_holds : Rows.FnExactValLessSaid := lawValLess.over
#print axioms fnExactValLess_holds
end Go.Proofs.Ytmgoplamocgflaf
