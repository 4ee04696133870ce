/- For every value the landed ValBytes answers as the given one does, and its answer shares no memory: 'FnExactValBytes' returns true at every argument, with no condition; its argument reads afterwards as it read before. -/
import Derived.Test.YtihilcffmdjhhanWs
import Derived.Test.YtihilcffmdjhhanToVal
import Derived.Lib.SmallJoins
import Derived.Deep.RegionWith
import Derived.Deep.DeepCutAuto
namespace Go.Proofs.Ytihilcffmdjhhan.lawValBytes
open Go.ChangeShapes Go.WideShapes Go.ChangeAt Go.RowKit Go.Joins

set_option maxRecDepth 100000 in
set_option maxHeartbeats 2000000 in
theorem walk (ty n : Int) (x : ByteArray) (w : World) (hs : x.size ≤ maxLen) :
    Calls Try.prog 5 #[V ty n x] w fun e w' => e = .returned (.bool true) ∧ Below w.heap.size w w' := by
  obtain ⟨q, L, hq⟩ : ∃ (q : Bool) (L : List UInt8), (q = true ∧ okB ty n x = true ∧ L = valL ⟨ty, n, x⟩) ∨ (q = false ∧ okB ty n x = false ∧ L = []) := by
    cases h : okB ty n x
    · exact ⟨false, _, Or.inr ⟨rfl, rfl, rfl⟩⟩
    · exact ⟨true, _, Or.inl ⟨rfl, rfl, rfl⟩⟩
  have hLl : L.length ≤ 1000 := by
    rcases hq with ⟨_, h, rfl⟩ | ⟨_, _, rfl⟩
    · have := valL_length (c := ⟨ty, n, x⟩) h
      omega
    · simp
  have HSS : Hid (∀ (u : World), Calls Try.prog 17 #[.agg #[.int .i64 ty, .int .i64 n, .string x]] u fun e w' => ∃ v', e = .returned (.tuple #[v', .bool q]) ∧ Below u.heap.size u w' ∧ Got w' u.heap.size 5 1 v' (L.map byX)) := fun u => valBytes_spec ty n x u q L hq
  have HSI : Hid (∀ (u : World), Calls Try.prog 19 #[.agg #[.int .i64 ty, .int .i64 n, .string x]] u fun e w' => ∃ v', e = .returned (.tuple #[v', .bool q]) ∧ Below u.heap.size u w' ∧ Got w' u.heap.size 5 1 v' (L.map byX)) := fun u => valBytes_impl ty n x u q L hq
  have HTV : Hid (∀ (u : World), Calls Try.prog 18 #[.agg #[.int .i64 ty, .int .i64 n, .string x]] u fun e w' => e = .returned (.agg #[.int .i64 ty, .int .i64 n, .string x]) ∧ Below u.heap.size u w') := fun u => (toVal_any ty n x u).mono fun e w' ⟨he, hw⟩ => ⟨he, by subst hw; exact (by repeat (first | with_reducible exact Below.refl _ _ | with_reducible assumption | with_reducible refine ch_alloc ?_ _ | with_reducible refine Below.drew ?_ | with_reducible refine below_draws _ ?_ | (with_reducible refine Below.setCell ?_ ?_ _; rotate_left; focus (first | with_reducible exact Nat.le_refl _ | (simp; done) | (simp; omega) | (simp at *; omega))) | with_reducible refine ch_trans ?_ (by with_reducible assumption)))⟩
  have hqq : (q != q) = false := by simp
  have hkl' : (L.map byX).length ≤ 2000000 := by simp; omega
  have HL := Loc.new w #[.int .i64 ty, .int .i64 n, .string x] 32
  clear hq
  go_enter Try.func5, Try.ntmps5
  go_wp2_with fail
  refine (szVal_any ty n x _ _ hs (by omega) (by omega)).mono ?_
  rintro e w1 ⟨r, rfl, b1, hr⟩
  have HL1 := HL.on b1
  obtain ⟨c0, c1, c2⟩ := HL1.three
  rcases hr with rfl | ⟨r0, r1⟩
  · go_wp2
    go_ret
    exact ⟨rfl, (by repeat (first | with_reducible exact Below.refl _ _ | with_reducible assumption | with_reducible refine ch_alloc ?_ _ | with_reducible refine Below.drew ?_ | with_reducible refine below_draws _ ?_ | (with_reducible refine Below.setCell ?_ ?_ _; rotate_left; focus (first | with_reducible exact Nat.le_refl _ | (simp; done) | (simp; omega) | (simp at *; omega))) | with_reducible refine ch_trans ?_ (by with_reducible assumption)))⟩
  go_wp2_with fail
  refine (HTV.out _).mono ?_
  rintro e wa ⟨rfl, ba⟩
  go_wp2_with fail
  refine (HSS.out _).mono ?_
  rintro e w2 ⟨v0, rfl, b2, hg0⟩
  obtain ⟨a0, n0, e0, rfl, hg0⟩ := hg0.lit2
  have hwa : w.heap.size ≤ wa.heap.size := (show Below w.heap.size w wa from (by repeat (first | with_reducible exact Below.refl _ _ | with_reducible assumption | with_reducible refine ch_alloc ?_ _ | with_reducible refine Below.drew ?_ | with_reducible refine below_draws _ ?_ | (with_reducible refine Below.setCell ?_ ?_ _; rotate_left; focus (first | with_reducible exact Nat.le_refl _ | (simp; done) | (simp; omega) | (simp at *; omega))) | with_reducible refine ch_trans ?_ (by with_reducible assumption)))).size
  have HG0 : Hid (Got w2 w.heap.size 5 1 (.slice a0 n0 e0) (L.map byX)) := hg0.mono hwa
  have HL2 := HL1.on (w' := w2) (by repeat (first | with_reducible exact Below.refl _ _ | with_reducible assumption | with_reducible refine ch_alloc ?_ _ | with_reducible refine Below.drew ?_ | with_reducible refine below_draws _ ?_ | (with_reducible refine Below.setCell ?_ ?_ _; rotate_left; focus (first | with_reducible exact Nat.le_refl _ | (simp; done) | (simp; omega) | (simp at *; omega))) | with_reducible refine ch_trans ?_ (by with_reducible assumption)))
  have hw2 : Below w.heap.size w w2 := (by repeat (first | with_reducible exact Below.refl _ _ | with_reducible assumption | with_reducible refine ch_alloc ?_ _ | with_reducible refine Below.drew ?_ | with_reducible refine below_draws _ ?_ | (with_reducible refine Below.setCell ?_ ?_ _; rotate_left; focus (first | with_reducible exact Nat.le_refl _ | (simp; done) | (simp; omega) | (simp at *; omega))) | with_reducible refine ch_trans ?_ (by with_reducible assumption)))
  clear hg0 c0 c1 c2 ba b2 b1
  obtain ⟨c0, c1, c2⟩ := HL2.three
  go_wp2_with fail
  refine (HTV.out _).mono ?_
  rintro e wb ⟨rfl, bb⟩
  go_wp2_with fail
  refine (HSI.out _).mono ?_
  rintro e w4 ⟨v1, rfl, b4, hg1⟩
  obtain ⟨a1, n1, e1, rfl, hg1⟩ := hg1.lit2
  have HG1 : Hid (Got w4 w2.heap.size 5 1 (.slice a1 n1 e1) (L.map byX)) := hg1.mono bb.size
  have HG04 : Hid (Got w4 w.heap.size 5 1 (.slice a0 n0 e0) (L.map byX)) := HG0.out.on (by repeat (first | with_reducible exact Below.refl _ _ | with_reducible assumption | with_reducible refine ch_alloc ?_ _ | with_reducible refine Below.drew ?_ | with_reducible refine below_draws _ ?_ | (with_reducible refine Below.setCell ?_ ?_ _; rotate_left; focus (first | with_reducible exact Nat.le_refl _ | (simp; done) | (simp; omega) | (simp at *; omega))) | with_reducible refine ch_trans ?_ (by with_reducible assumption)))
  clear hg1
  go_wp2_with fail
  refine (eqByteS_same _ _ L _ HG1.out.bytes HG04.out.bytes).mono ?_
  rintro e w5 ⟨rfl, b5⟩
  have HG19 : Hid (Got w5 w2.heap.size 5 1 (.slice a1 n1 e1) (L.map byX)) := HG1.out.on b5
  have HBf : Hid (Below w2.heap.size w2 w5) := by show Below _ _ _; exact (by repeat (first | with_reducible exact Below.refl _ _ | with_reducible assumption | with_reducible refine ch_alloc ?_ _ | with_reducible refine Below.drew ?_ | with_reducible refine below_draws _ ?_ | (with_reducible refine Below.setCell ?_ ?_ _; rotate_left; focus (first | with_reducible exact Nat.le_refl _ | (simp; done) | (simp; omega) | (simp at *; omega))) | with_reducible refine ch_trans ?_ (by with_reducible assumption)))
  have hs9 : w2.heap.size ≤ w5.heap.size := HBf.out.size
  clear bb b4 b5 c0 c1 c2
  go_wp2_with fail
  refine (markByteS_got HG19.out hkl' 1 (by omega)).mono ?_
  rintro e w10 ⟨rfl, hT3, hheld⟩
  have HH : Hid (HeldL w10 (.slice a1 n1 e1) 1 (markY 1) (L.map byX).length) := hheld
  have HBg : Hid (Below w2.heap.size w2 w10) := HBf.out.trans (hT3.toBelow (fun c h => by have := HG19.out.own h; omega) (by omega))
  have HHS : Hid (∀ u : World, HeldL u (.slice a1 n1 e1) 1 (markY 1) (L.map byX).length → Calls Try.prog 13 #[.slice a1 n1 e1, .int .i64 1] u fun e w' => e = .returned (.int .i64 ((1 + (L.map byX).length : Nat) : Int)) ∧ Below u.heap.size u w') := fun u hu => heldByteS_held (k := 1) hu hkl' (by omega)
  clear hT3 hheld
  generalize 1 + (L.map byX).length = M at HHS ⊢
  have hm0 : decide ((M : Int) < 0) = false := by simp
  have hmm : ((M : Int) != M) = false := by simp
  go_wp2_with fail
  refine (HHS.out _ HH.out).mono ?_
  rintro e w11 ⟨rfl, b11⟩
  have HH11 : Hid (HeldL w11 (.slice a1 n1 e1) 1 (markY 1) (L.map byX).length) := HH.out.on b11
  have HB11 : Hid (Below w2.heap.size w2 w11) := ch_trans HBg.out b11
  have HG011 : Hid (Got w11 w.heap.size 5 1 (.slice a0 n0 e0) (L.map byX)) := HG0.out.on HB11.out
  have hw11 : Below w.heap.size w w11 := ch_trans hw2 HB11.out
  clear b11
  have HL11 := HL2.on HB11.out
  obtain ⟨c0, c1, c2⟩ := HL11.three
  go_wp2_with fail
  refine (HTV.out _).mono ?_
  rintro e w12 ⟨rfl, b12⟩
  go_wp2_with fail
  refine (HSI.out _).mono ?_
  rintro e w13 ⟨v2, rfl, b13, hg2⟩
  obtain ⟨a2, n2, e2, rfl, hg2⟩ := hg2.lit2
  have HG2 : Hid (Got w13 w12.heap.size 5 1 (.slice a2 n2 e2) (L.map byX)) := hg2
  have HG013 : Hid (Got w13 w.heap.size 5 1 (.slice a0 n0 e0) (L.map byX)) := HG011.out.on (by repeat (first | with_reducible exact Below.refl _ _ | with_reducible assumption | with_reducible refine ch_alloc ?_ _ | with_reducible refine Below.drew ?_ | with_reducible refine below_draws _ ?_ | (with_reducible refine Below.setCell ?_ ?_ _; rotate_left; focus (first | with_reducible exact Nat.le_refl _ | (simp; done) | (simp; omega) | (simp at *; omega))) | with_reducible refine ch_trans ?_ (by with_reducible assumption)))
  have HH13 : Hid (HeldL w13 (.slice a1 n1 e1) 1 (markY 1) (L.map byX).length) := HH11.out.on (by repeat (first | with_reducible exact Below.refl _ _ | with_reducible assumption | with_reducible refine ch_alloc ?_ _ | with_reducible refine Below.drew ?_ | with_reducible refine below_draws _ ?_ | (with_reducible refine Below.setCell ?_ ?_ _; rotate_left; focus (first | with_reducible exact Nat.le_refl _ | (simp; done) | (simp; omega) | (simp at *; omega))) | with_reducible refine ch_trans ?_ (by with_reducible assumption)))
  clear hg2
  go_wp2_with fail
  refine (eqByteS_same _ _ L _ HG2.out.bytes HG013.out.bytes).mono ?_
  rintro e w14 ⟨rfl, b14⟩
  go_wp2_with fail
  refine (HHS.out _ (HH13.out.on b14)).mono ?_
  rintro e w15 ⟨rfl, b15⟩
  go_wp2
  go_ret
  exact ⟨rfl, (by repeat (first | with_reducible exact Below.refl _ _ | with_reducible assumption | with_reducible refine ch_alloc ?_ _ | with_reducible refine Below.drew ?_ | with_reducible refine below_draws _ ?_ | (with_reducible refine Below.setCell ?_ ?_ _; rotate_left; focus (first | with_reducible exact Nat.le_refl _ | (simp; done) | (simp; omega) | (simp at *; omega))) | with_reducible refine ch_trans ?_ (by with_reducible assumption)))⟩

theorem own : ownKnob Try.prog.godebug = none := by kernel_rfl
theorem cellsT : Try.prog.cellsOf 32 = 3 := by kernel_rfl

set_option maxRecDepth 100000 in
theorem lifted (os : Os) (started : os.Started) (H : Type) (enc : TypeId × Value → H) :
    ReturnsInHanded {} Try.checked os 5 .any (Rows.fnExactValBytesSpec.pre6 enc Try.prog Try.f5 Rows.fnExactValBytesRow.domain false) (Rows.fnExactValBytesSpec.post enc Try.prog Try.f5 false true false false) := by
  refine returnsInHanded_of_change (C := Try.checked) own started (by kernel_rfl) Try.func5
    (ChangeSpec.witness6 (enc := enc) (C := Try.checked) false ⟨#[], #[.agg #[.int .i64 0, .int .i64 0, .string ByteArray.empty]], []⟩ 8 (by kernel_rfl) (by kernel_rfl) (by kernel_rfl) (by kernel_rfl)) ?_
  intro W base args ds gs before hval0 hW _ _
  have hval : ∀ (j : Nat) t v, Try.f5.params[j]? = some t → args[j]? = some v → Value.okWide Try.prog W .any base t v := hval0
  have hW' := hW
  obtain ⟨p, q, hA0, hV, rfl, _, _⟩ := hW
  have hA : DataW.TrodAll enc Try.prog W 0 (fun _ => true) true Try.f5.params.toList args.toList ds p := hA0
  rw [Try.params5] at hA hval
  obtain ⟨v0, d0, rfl, rfl, h0⟩ := trodAll_one hA
  obtain ⟨rfl, rfl⟩ := trodVars_none hV
  obtain ⟨c0, c1, c2, y0, y1, y2, m, rfl, rfl, rfl, hy0, hy1, hy2⟩ := open_agg3 Try.underlying32 (by kernel_rfl) cellsT (hval 0 32 v0 rfl rfl) h0
  obtain ⟨ty, e0, rfl, wa⟩ := DataW.trod_int Try.underlying3 hy0
  obtain ⟨n, e1, rfl, wb⟩ := DataW.trod_int Try.underlying3 hy1
  obtain ⟨s, e2, rfl, ws⟩ := DataW.trod_string Try.underlying9 hy2
  simp at e0 e1 e2
  subst e0 e1 e2
  clear hA0 hval0
  simp only [List.append_nil] at hW'
  have reads : ∀ (W' : World) (sp : Nat → Bool), DataW.Trod enc Try.prog W' 0 sp true 32 (V ty n s) (.agg [.lit (.int .i64 ty), .lit (.int .i64 n), .lit (.string s.data.toList)]) [] := fun W' sp =>
    shut_agg3 (y0 := (.lit (.int .i64 ty), [])) (y1 := (.lit (.int .i64 n), [])) (y2 := (.lit (.string s.data.toList), [])) Try.underlying32 (by kernel_rfl) cellsT
      ⟨1, by simp [DataW.trod, Try.underlying3, wa]⟩ ⟨1, by simp [DataW.trod, Try.underlying3, wb]⟩ ⟨1, by simp [DataW.trod, Try.underlying9, ws]⟩
  refine (walk ty n s W ws).mono fun e W' ⟨he, bel⟩ => ?_
  subst he
  exact ⟨_, rfl, _, _, _, [], [], [], hW', trodAll_mk1 (shut_bool Try.underlying4 _), trodAll_mk1 (reads _ _), rfl, bel.frame _, fun h => by cases h⟩

theorem over : Rows.FnExactValBytesSaid :=
  OpenClaim.holds_of_wide 5 Try.f5 rfl rfl rfl rfl rfl rfl rfl ⟨rfl, rfl, rfl, rfl, rfl⟩ rfl rfl rfl rfl rfl (by kernel_rfl) Try.func5 (by kernel_rfl)
    (of_decide_eq_true (by kernel_rfl)) (by unfold Func.isWrapper; first | (rw [if_pos (by decide +kernel)]; kernel_rfl) | (rw [if_neg (by decide +kernel)]; exact ⟨rfl, rfl⟩))
    (fun os started H enc _ => lifted os started H enc)
end Go.Proofs.Ytihilcffmdjhhan.lawValBytes
namespace Go.Proofs.Ytihilcffmdjhhan
theorem fnExactValBytes_holds : Rows.FnExactValBytesSaid := lawValBytes.over
#print axioms fnExactValBytes_holds
end Go.Proofs.Ytihilcffmdjhhan
