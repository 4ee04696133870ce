/- For every catalog and every name the landed TableOf answers as the given one does, leaves the catalog as it was, and its answer owns its memory: 'FnExactTableOf' returns true at every argument, with no condition; its arguments read afterwards as they read before. -/
import Derived.Test.YtmkgbdgafjeeiahTo
import Derived.Test.YtmkgbdgafjeeiahTm
import Derived.Test.YtmkgbdgafjeeiahTt
import Derived.Test.YtmkgbdgafjeeiahMs
import Derived.Test.YtmkgbdgafjeeiahOpenK
namespace Go.Proofs.Ytmkgbdgafjeeiah.lawTableOf
open Go.ChangeShapes Go.WideShapes Go.ChangeAt Go.RowKit
open Go.ChangeMaps (open_string shut_string)

set_option maxRecDepth 100000 in
set_option maxHeartbeats 2000000 in
theorem walk (cv : Value) (ts : List Tc) (s : ByteArray) (w : World) (hx : TabsV w cv ts) (hf : fits ts) (hs : s.size ≤ maxLen) :
    Calls Try.prog 6 #[.agg #[cv], .string s] w fun e w' => e = .returned (.bool true) ∧ Below w.heap.size w w' := by
  obtain ⟨a, cap, rfl, _, _⟩ := hx.lit
  unfold maxLen at hs
  have HX : Hid (TabsV w (.slice a ts.length cap) ts) := hx
  have HF : Hid (fits ts) := hf
  have HL := Loc.new w #[.slice a ts.length cap] 47
  have hbv : Below w.heap.size w (w.alloc (.cells #[.slice a ts.length cap] 47)) := (by repeat (first | with_reducible exact Below.refl _ _ | with_reducible assumption | with_reducible refine ch_alloc ?_ _ | with_reducible refine Below.drew ?_ | with_reducible refine below_draws _ ?_ | (with_reducible refine Below.setCell ?_ ?_ _; rotate_left; focus (first | with_reducible exact Nat.le_refl _ | (simp; done) | (simp; omega) | (simp at *; omega))) | with_reducible refine ch_trans ?_ (by with_reducible assumption)))
  clear hx hf
  by_cases hs20 : 1048576 < s.size
  · have hs20' : decide ((1048576 : Int) < s.size) = true := by simp; omega
    go_enter Try.func6, Try.ntmps6
    go_wp2
    go_ret
    exact ⟨rfl, hbv⟩
  have hs20' : decide ((1048576 : Int) < s.size) = false := by simp; omega
  clear hs20
  go_enter Try.func6, Try.ntmps6
  go_wp2_with fail
  generalize w.alloc (.cells #[.slice a ts.length cap] 47) = wv at HL hbv ⊢
  refine (szCat_any _ ts _ _ (HX.out.on hbv) HF.out (by omega) (by omega)).mono ?_
  rintro e w1 ⟨r, rfl, b1, hr⟩
  have HL1 := HL.on b1
  have hb1 := ch_trans hbv b1
  clear b1 hbv HL
  have c0 := HL1.one
  rcases hr with rfl | ⟨r0, r1, few⟩
  · go_wp2
    go_ret
    exact ⟨rfl, hb1⟩
  obtain ⟨t, q0, hrs⟩ := tableOf_is ts s
  have HRS : Hid (isTableOf ts s t q0) := hrs
  have HSM : Hid t.few := by
    rcases hrs with ⟨h, i, h1, hi, rfl, _⟩ | ⟨_, rfl, _⟩
    · exact (right_few (h.2.1 i hi)).1
    · exact ⟨Nat.zero_le _, Nat.zero_le _⟩
  have HTC : Hid (∀ u : World, Below w.heap.size w u → Calls Try.prog 20 #[.agg #[.slice a ts.length cap]] u fun e w' => ∃ y, e = .returned (.agg #[y]) ∧ Below u.heap.size u w' ∧ TabsV w' y ts ∧ New TabsS u.heap.size w' y) := fun u hu => (toCat_full _ ts u (HX.out.on hu) few).mono fun e w' ⟨y, h1, h2, h3, h4⟩ => ⟨y, h1, h2, h3.1, h4⟩
  clear few hrs HX
  go_wp2_with fail
  refine (HTC.out _ hb1).mono ?_
  rintro e w2 ⟨y, rfl, b2, hy, _⟩
  have HY2 : Hid (TabsV w2 y ts) := hy
  have hb2 := ch_trans hb1 b2
  have HL2 := HL1.on b2
  clear hy b2 hb1 HL1 c0
  go_wp2_with fail
  refine (tableOf_spec _ ts s _ HY2.out HF.out t q0 HRS.out).mono ?_
  rintro e w3 ⟨y0, rfl, b3, hg0⟩
  obtain ⟨xa, xn, xp, xb, xm, xq, rfl, hg0⟩ := hg0.lit
  have HG0 : Hid (TabV w3 #[.string t.name, .slice xa xn xp, .slice xb xm xq] t) := hg0.tab
  have HW := Loc.new w3 #[.string t.name, .slice xa xn xp, .slice xb xm xq] 41
  have hv3 : Below w3.heap.size w3 (w3.alloc (.cells #[.string t.name, .slice xa xn xp, .slice xb xm xq] 41)) := (by repeat (first | with_reducible exact Below.refl _ _ | with_reducible assumption | with_reducible refine ch_alloc ?_ _ | with_reducible refine Below.drew ?_ | with_reducible refine below_draws _ ?_ | (with_reducible refine Below.setCell ?_ ?_ _; rotate_left; focus (first | with_reducible exact Nat.le_refl _ | (simp; done) | (simp; omega) | (simp at *; omega))) | with_reducible refine ch_trans ?_ (by with_reducible assumption)))
  have hb3 := ch_trans (ch_trans hb2 b3) hv3
  have HL3 := (HL2.on b3).on hv3
  have HG0 : Hid (TabV (w3.alloc (.cells #[.string t.name, .slice xa xn xp, .slice xb xm xq] 41)) #[.string t.name, .slice xa xn xp, .slice xb xm xq] t) := HG0.out.on hv3
  have hqq : (q0 != q0) = false := by cases q0 <;> rfl
  have hqe : (q0 == q0) = true := by cases q0 <;> rfl
  clear hg0 b3 hb2 HL2 HY2 hv3
  have c0 := HL3.one
  go_wp2_with fail
  obtain ⟨B0, hB0⟩ : ∃ B0, B0 = w3.heap.size := ⟨_, rfl⟩
  rw [← hB0] at HW ⊢
  generalize w3.alloc (.cells #[.string t.name, .slice xa xn xp, .slice xb xm xq] 41) = u3 at HW hb3 HL3 HG0 c0 ⊢
  clear hB0
  refine (HTC.out _ hb3).mono ?_
  rintro e w4 ⟨y, rfl, b4, hy, hnt⟩
  obtain ⟨a4, p4, rfl, _, _⟩ := hy.lit
  have HX4 : Hid (TabsV w4 (.slice a4 ts.length p4) ts) := hy
  have HN4 := Loc.new w4 #[.slice a4 ts.length p4] 52
  obtain ⟨S, hSd⟩ : ∃ S : Nat → Prop, S = fun c => u3.heap.size ≤ c ∧ c < w4.heap.size := ⟨_, rfl⟩
  have HSH : Hid (TabsS S w4 (.slice a4 ts.length p4)) := by subst hSd; exact hnt
  have HSD : Hid (∀ c, S c → u3.heap.size ≤ c ∧ c < w4.heap.size) := by subst hSd; exact fun c h => h
  have hs34 : u3.heap.size ≤ w4.heap.size := b4.size
  have hv4 : Below w4.heap.size w4 (w4.alloc (.cells #[.slice a4 ts.length p4] 52)) := (by repeat (first | with_reducible exact Below.refl _ _ | with_reducible assumption | with_reducible refine ch_alloc ?_ _ | with_reducible refine Below.drew ?_ | with_reducible refine below_draws _ ?_ | (with_reducible refine Below.setCell ?_ ?_ _; rotate_left; focus (first | with_reducible exact Nat.le_refl _ | (simp; done) | (simp; omega) | (simp at *; omega))) | with_reducible refine ch_trans ?_ (by with_reducible assumption)))
  have hz4 : (w4.alloc (.cells #[.slice a4 ts.length p4] 52)).heap.size = w4.heap.size + 1 := by simp
  have hb34 := ch_trans b4 hv4
  clear hy hnt hSd c0 b4
  have i0 := HN4.one
  go_wp2_with fail
  generalize w4.alloc (.cells #[.slice a4 ts.length p4] 52) = u4 at HN4 hv4 hz4 hb34 i0 ⊢
  refine (tableOf_impl _ ts s _ (HX4.out.on hv4) HF.out t q0 HRS.out).mono ?_
  rintro e w5 ⟨y1, rfl, b5, hg1⟩
  obtain ⟨ya, yn, yp, yb, ym, yq, rfl, hg1⟩ := hg1.lit
  rw [hz4] at hg1
  have HM := Loc.new w5 #[.string t.name, .slice ya yn yp, .slice yb ym yq] 41
  have hv5' : Below w5.heap.size w5 (w5.alloc (.cells #[.string t.name, .slice ya yn yp, .slice yb ym yq] 41)) := (by repeat (first | with_reducible exact Below.refl _ _ | with_reducible assumption | with_reducible refine ch_alloc ?_ _ | with_reducible refine Below.drew ?_ | with_reducible refine below_draws _ ?_ | (with_reducible refine Below.setCell ?_ ?_ _; rotate_left; focus (first | with_reducible exact Nat.le_refl _ | (simp; done) | (simp; omega) | (simp at *; omega))) | with_reducible refine ch_trans ?_ (by with_reducible assumption)))
  have HG1 : Hid (TabG (w5.alloc (.cells #[.string t.name, .slice ya yn yp, .slice yb ym yq] 41)) (w4.heap.size + 1) #[.string t.name, .slice ya yn yp, .slice yb ym yq] t) := hg1.on hv5'
  have HG5 : Hid (TabG w5 (w4.heap.size + 1) #[.string t.name, .slice ya yn yp, .slice yb ym yq] t) := hg1
  have hz5 : w4.heap.size + 1 ≤ w5.heap.size := by rw [← hz4]; exact b5.size
  have b5 := ch_trans b5 hv5'
  have HN5 := HN4.on b5
  have hb35 := ch_trans hb34 b5
  have hv5 := ch_trans hv4 b5
  have HW5 := HW.on hb35
  clear hg1 b5 hb34 hv4 HN4 hz4 i0 hv5'
  obtain ⟨d0, d1, d2⟩ := HW5.three
  obtain ⟨m0, m1, m2⟩ := HM.three
  have hzu : (w5.alloc (.cells #[.string t.name, .slice ya yn yp, .slice yb ym yq] 41)).heap.size = w5.heap.size + 1 := by simp
  go_wp2_with fail
  generalize w5.alloc (.cells #[.string t.name, .slice ya yn yp, .slice yb ym yq] 41) = u5 at HM HG1 HN5 hb35 hv5 HW5 d0 d1 d2 m0 m1 m2 hzu ⊢
  refine (eqTable_same _ _ t _ HG1.out.tab (HG0.out.on hb35)).mono ?_
  rintro e w6 ⟨rfl, b6⟩
  have HN6 := HN5.on b6
  have HM6 := HM.on b6
  have HW6 := HW5.on b6
  have HL6 := HL3.on (ch_trans hb35 b6)
  have hb36 := ch_trans hb35 b6
  have hv6 := ch_trans hv5 b6
  have HG6 : Hid (TabG w6 (w4.heap.size + 1) #[.string t.name, .slice ya yn yp, .slice yb ym yq] t) := HG1.out.on b6
  have hz6 : w5.heap.size + 1 ≤ w6.heap.size := by rw [← hzu]; exact b6.size
  have hb6 := ch_trans hb3 hb36
  clear b6 HN5 hb35 hv5 HG1 HM HW5 d0 d1 d2 m0 m1 m2 hzu
  have c0 := HL6.one
  have i0 := HN6.one
  go_wp2_with fail
  refine region_plan [([0, 1], 2), ([], 3)] [4] (by kernel_rfl) (by kernel_rfl) ?_
  have hgd := Grows.drawn w6
  generalize { w6 with drawn := w6.drawn + 1 } = wd at hgd ⊢
  have hbd := ch_trans hb6 hgd
  have c0 := cell_on c0 hgd
  have i0 := cell_on i0 hgd
  refine plan_on (by simp only [pick, List.getElem?_toArray, List.getElem?_cons_succ, List.getElem?_cons_zero]; rfl) ?_
  repeat (go_big_quiet_step ((intro hu; have j0 := hu.cell c0; have j2 := hu.cell i0; go_simp; (try exact rfl))))
  refine wpQuiet_nil ?_
  refine plan_call rfl rfl (fun K hK => ?_)
  go_simp
  go_at_call 20
  refine (HTC.out _ hbd).mono ?_
  rintro e w7 ⟨y, rfl, b7, hy, _⟩
  refine ⟨_, rfl, hK _ _ ⟨b7, ?_⟩⟩
  have HYT : Hid (TabsV w7 y ts) := hy
  have hg67 := ch_trans hgd b7
  clear hK K hy c0 i0
  refine plan_on rfl ?_
  refine wpQuiet_nil ?_
  refine plan_call rfl rfl (fun K hK => ?_)
  go_simp
  go_at_call 22
  refine (eqCat_same _ _ ts _ (HX4.out.on (ch_trans hv6 hg67)) HYT.out).mono ?_
  rintro e w9 ⟨rfl, b9⟩
  refine ⟨_, rfl, hK _ _ ⟨b9, ?_⟩⟩
  have h69 := ch_trans hg67 b9
  have HN9 := HN6.on h69
  have HM9 := HM6.on h69
  have HW9 := HW6.on h69
  have hb39 := ch_trans hb36 h69
  have hv9 := ch_trans hv6 h69
  have HG9 : Hid (TabG w9 (w4.heap.size + 1) #[.string t.name, .slice ya yn yp, .slice yb ym yq] t) := HG6.out.on h69
  have hz9 : w5.heap.size + 1 ≤ w9.heap.size := Nat.le_trans hz6 h69.size
  have HSH9 : Hid (TabsS S w9 (.slice a4 ts.length p4)) := TabsS.good.holds S _ _ _ (fun c _ hc => hv9.block c hc) HSH.out
  clear hK K b9 hg67 hgd hbd b7 HYT h69 HN6 HM6 HW6 hb36 hv6 HG6 hz6 hb6 HSH HX4 HL6
  refine plan_end (by simp only [pick, List.getElem?_toArray, List.getElem?_cons_succ, List.getElem?_cons_zero]; rfl) ?_
  repeat (go_big_quiet_step ((intro hu; go_simp; (try exact rfl))))
  refine wpQuiet_nil ?_
  have i0 := HN9.one
  go_wp2_with fail
  refine (markCat_shape S _ 1 _ HSH9.out (by omega)).mono ?_
  rintro e w10 ⟨K, rfl, hKb, hM⟩
  have hB3 : B0 < u3.heap.size := cell_lt HW.three.1
  have HM10 : Loc w10 w5.heap.size #[.string t.name, .slice ya yn yp, .slice yb ym yq] := HM9.turned hM.turns fun hc => by have := (HSD.out _ hc).2; omega
  have HW10 : Loc w10 B0 #[.string t.name, .slice xa xn xp, .slice xb xm xq] := HW9.turned hM.turns fun hc => by have := (HSD.out _ hc).1; omega
  have hb310 : Below u3.heap.size u3 w10 := hb39.trans (hM.turns.toBelow (fun c hc => (HSD.out c hc).1) (by have := hb39.size; omega))
  have HG10 : Hid (TabG w10 (w4.heap.size + 1) #[.string t.name, .slice ya yn yp, .slice yb ym yq] t) := HG9.out.turned hM.turns fun c hc => by have := (HSD.out c hc).2; omega
  have hz10 : w5.heap.size + 1 ≤ w10.heap.size := Nat.le_trans hz9 hM.turns.size
  have hk0 : decide ((K : Int) < 0) = false := by simp
  clear hM HSH9 HG9 hz9 hb39 hv9 i0 HN9 HM9 HW9 hKb
  obtain ⟨d0, d1, d2⟩ := HW10.three
  obtain ⟨m0, m1, m2⟩ := HM10.three
  go_wp2_with (go_at_call 17; refine (eqTable_same _ _ t _ HG10.out.tab (HG0.out.on hb310)).mono ?_; rintro e w11 ⟨rfl, b11⟩; obtain ⟨f0, f1, f2⟩ := (HM10.on b11).three)
  have HM11 := HM10.on b11
  have HW11 := HW10.on b11
  have hb311 := ch_trans hb310 b11
  have HG11 : Hid (TabG w11 (w4.heap.size + 1) #[.string t.name, .slice ya yn yp, .slice yb ym yq] t) := HG10.out.on b11
  have hz11 : w5.heap.size + 1 ≤ w11.heap.size := Nat.le_trans hz10 b11.size
  clear b11 hb310 HG10 hz10 HM10 HW10 d0 d1 d2 m0 m1 m2 f0 f1 f2
  refine (markTable_got w11 w5 _ _ t HG11.out HG5.out HSM.out 1 (by omega)).mono ?_
  rintro e w12 ⟨rfl, hT, hh⟩
  have HH : Hid (HeldT w12 #[.string t.name, .slice ya yn yp, .slice yb ym yq] 1 t) := hh
  have HM12 : Loc w12 w5.heap.size #[.string t.name, .slice ya yn yp, .slice yb ym yq] := HM11.turned hT fun hc => by omega
  have HW12 : Loc w12 B0 #[.string t.name, .slice xa xn xp, .slice xb xm xq] := HW11.turned hT fun hc => by have := hc.1; omega
  have hb312 : Below u3.heap.size u3 w12 := hb311.trans (hT.toBelow (fun c hc => by have := hc.1; omega) (by have := hb311.size; omega))
  have HHS : Hid (∀ u : World, HeldT u #[.string t.name, .slice ya yn yp, .slice yb ym yq] 1 t → Calls Try.prog 27 #[.agg #[.string t.name, .slice ya yn yp, .slice yb ym yq], .int .i64 1] u fun e w' => e = .returned (.int .i64 ((1 + t.cols.length * 7 + t.keys.length : Nat) : Int)) ∧ Below u.heap.size u w') := fun u hu => heldTable_held u _ t 1 hu HSM.out (by omega)
  clear hT hh hb311 HG11 hz11 HM11 HW11
  generalize 1 + t.cols.length * 7 + t.keys.length = M at HHS ⊢
  have hm0 : decide ((M : Int) < 0) = false := by simp
  have hmm : ((M : Int) != M) = false := by simp
  have hme : ((M : Int) == M) = true := by simp
  obtain ⟨m0, m1, m2⟩ := HM12.three
  go_wp2_with fail
  refine (HHS.out _ HH.out).mono ?_
  rintro e w13 ⟨rfl, b13⟩
  have hb313 := ch_trans hb312 b13
  have HH13 : Hid (HeldT w13 #[.string t.name, .slice ya yn yp, .slice yb ym yq] 1 t) := HH.out.on b13
  have HM13 := HM12.on b13
  have HW13 := HW12.on b13
  have HL13 := HL3.on hb313
  have hb13 := ch_trans hb3 hb313
  clear b13 hb312 HH m0 m1 m2 HM12 HW12
  have c0 := HL13.one
  go_wp2_with fail
  refine (HTC.out _ hb13).mono ?_
  rintro e w14 ⟨y, rfl, b14, hy, _⟩
  have HY14 : Hid (TabsV w14 y ts) := hy
  clear hy c0
  go_wp2_with fail
  refine (tableOf_impl _ ts s _ HY14.out HF.out t q0 HRS.out).mono ?_
  rintro e w15 ⟨y2, rfl, b15, hg2⟩
  obtain ⟨za, zn, zp, zb, zm, zq, rfl, hg2⟩ := hg2.lit
  have HK := Loc.new w15 #[.string t.name, .slice za zn zp, .slice zb zm zq] 41
  have hv15 : Below w15.heap.size w15 (w15.alloc (.cells #[.string t.name, .slice za zn zp, .slice zb zm zq] 41)) := (by repeat (first | with_reducible exact Below.refl _ _ | with_reducible assumption | with_reducible refine ch_alloc ?_ _ | with_reducible refine Below.drew ?_ | with_reducible refine below_draws _ ?_ | (with_reducible refine Below.setCell ?_ ?_ _; rotate_left; focus (first | with_reducible exact Nat.le_refl _ | (simp; done) | (simp; omega) | (simp at *; omega))) | with_reducible refine ch_trans ?_ (by with_reducible assumption)))
  have HG2 : Hid (TabV (w15.alloc (.cells #[.string t.name, .slice za zn zp, .slice zb zm zq] 41)) #[.string t.name, .slice za zn zp, .slice zb zm zq] t) := hg2.tab.on hv15
  have h1315 := ch_trans (ch_trans b14 b15) hv15
  have HW15 := HW13.on h1315
  obtain ⟨d0, d1, d2⟩ := HW15.three
  obtain ⟨m0, m1, m2⟩ := HK.three
  clear hg2 b14 b15 HY14 hv15
  go_wp2_with fail
  generalize w15.alloc (.cells #[.string t.name, .slice za zn zp, .slice zb zm zq] 41) = u15 at HK HG2 h1315 HW15 d0 d1 d2 m0 m1 m2 ⊢
  refine (eqTable_same _ _ t _ HG2.out (HG0.out.on (ch_trans hb313 h1315))).mono ?_
  rintro e w16 ⟨rfl, b16⟩
  have h1316 := ch_trans h1315 b16
  have HM16 := HM13.on h1316
  clear b16 h1315 HG2 d0 d1 d2 m0 m1 m2 HW15 HK
  obtain ⟨m0, m1, m2⟩ := HM16.three
  go_wp2_with fail
  refine (HHS.out _ (HH13.out.on h1316)).mono ?_
  rintro e w17 ⟨rfl, b17⟩
  have hb17 := ch_trans hb13 (ch_trans h1316 b17)
  clear b17 h1316
  go_wp2
  go_ret
  exact ⟨rfl, hb17⟩

theorem own : ownKnob Try.prog.godebug = none := by kernel_rfl
theorem laidOut : laidOutB Try.prog = true := by kernel_rfl

set_option maxRecDepth 100000 in
theorem lifted (os : Os) (started : os.Started) (H : Type) (enc : TypeId × Value → H) :
    ReturnsInHanded {} Try.checked os 6 .any (Rows.fnExactTableOfSpec.pre6 enc Try.prog Try.f6 Rows.fnExactTableOfRow.domain false) (Rows.fnExactTableOfSpec.post enc Try.prog Try.f6 false true false false) := by
  refine returnsInHanded_of_change (C := Try.checked) own started (by kernel_rfl) Try.func6
    (ChangeSpec.witness6 (enc := enc) (C := Try.checked) false ⟨#[], #[.agg #[.slice none 0 0], .string ByteArray.empty], []⟩ 8 (by kernel_rfl) (by kernel_rfl) (by kernel_rfl) (by kernel_rfl)) ?_
  intro W base args ds gs before hval0 hW _ _
  have hval : ∀ (j : Nat) t v, Try.f6.params[j]? = some t → args[j]? = some v → Value.okWide Try.prog W .any base t v := hval0
  have hW' := hW
  obtain ⟨p, q, hA0, hV, rfl, _, _⟩ := hW
  have hA : DataW.TrodAll enc Try.prog W 0 (fun _ => true) true Try.f6.params.toList args.toList ds p := hA0
  rw [Try.params6] at hA hval
  obtain ⟨v0, v1, d0, d1, p0, p1, rfl, rfl, rfl, h0, h1⟩ := trodAll_two hA
  obtain ⟨rfl, rfl⟩ := trodVars_none hV
  have h0k := h0
  have h1k := h1
  obtain ⟨cs, rfl, hsz⟩ := okWide_struct Try.underlying47 (hval 0 47 v0 rfl rfl)
  obtain ⟨k, hk⟩ := h0
  obtain ⟨v, ts, hc, hx, hf⟩ := open_cat hk
  have hc' : cs = #[v] := by apply Array.toList_inj.1; simpa [Value.cells] using hc
  subst hc'
  obtain ⟨s, rfl, rfl, rfl, hs⟩ := open_string Try.underlying9 (hval 1 9 v1 rfl rfl) h1
  clear hA0 hval0
  simp only [List.append_nil] at hW'
  have hlt : ∀ x ∈ p0, x.block < W.heap.size := fun x hx => by simpa using hW'.lt x (by simpa using hx)
  refine (walk v ts s W hx hf hs).mono fun e W' ⟨he, bel⟩ => ?_
  subst he
  exact ⟨_, rfl, _, _, _, [], _, [], hW', trodAll_mk1 (shut_bool Try.underlying4 _), trodAll_mk2 (Below.trod laidOut (by kernel_rfl) (of_decide_eq_true (by kernel_rfl)) h0k bel hlt) (shut_string Try.underlying9 hs), rfl, bel.frame _, fun h => by cases h⟩

theorem over : Rows.FnExactTableOfSaid :=
  OpenClaim.holds_of_wide 6 Try.f6 rfl rfl rfl rfl rfl rfl rfl ⟨rfl, rfl, rfl, rfl, rfl⟩ rfl rfl rfl rfl rfl (by kernel_rfl) Try.func6 (by kernel_rfl)
    (of_decide_eq_true (by kernel_rfl)) (by unfold Func.isWrapper; first | (rw [if_pos (by decide +kernel)]; kernel_rfl) | (rw [if_neg (by decide +kernel)]; exact ⟨rfl, rfl⟩))
    (fun os started H enc _ => lifted os started H enc)
end Go.Proofs.Ytmkgbdgafjeeiah.lawTableOf
namespace Go.Proofs.Ytmkgbdgafjeeiah
theorem fnExactTableOf_holds : Rows.FnExactTableOfSaid := lawTableOf.over
#print axioms fnExactTableOf_holds
end Go.Proofs.Ytmkgbdgafjeeiah
