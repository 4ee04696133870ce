/- For every two stores the landed SameDb answers as the given one does, and leaves the stores as they were: 'FnExactSameDb' returns true at every argument, with no condition; its arguments read afterwards as they read before. -/
import Derived.Test.YtbpdbhchnpnabalSd
import Derived.Test.YtbpdbhchnpnabalOpenDb
import Derived.Test.YtbpdbhchnpnabalOrd
namespace Go.Proofs.Ytbpdbhchnpnabal.lawSameDb
open Go.ChangeShapes Go.WideShapes Go.ChangeAt Go.RowKit

set_option maxRecDepth 100000 in
set_option maxHeartbeats 2000000 in
theorem walk (cv dv cv' dv' : Value) (ts ts' : List Tc) (ds ds' : List (List (List Vc))) (w : World) (hc : TabsV w cv ts) (hd : DataV w dv ds) (hc' : TabsV w cv' ts') (hd' : DataV w dv' ds') (hf : fits ts) (hg : dfits ds) (hf' : fits ts') (hg' : dfits ds') :
    Calls Try.prog 3 #[.agg #[cv, dv], .agg #[cv', dv']] w fun e w' => e = .returned (.bool true) ∧ Below w.heap.size w w' := by
  obtain ⟨a, p, rfl, _, _⟩ := hc.lit
  obtain ⟨b, q, rfl, _, _, _⟩ := hd.lit
  obtain ⟨a', p', rfl, _, _⟩ := hc'.lit
  obtain ⟨b', q', rfl, _, _, _⟩ := hd'.lit
  have HC : Hid (TabsV w (.slice a ts.length p) ts ∧ DataV w (.slice b ds.length q) ds) := ⟨hc, hd⟩
  have HC' : Hid (TabsV w (.slice a' ts'.length p') ts' ∧ DataV w (.slice b' ds'.length q') ds') := ⟨hc', hd'⟩
  have HF : Hid ((fits ts ∧ dfits ds) ∧ (fits ts' ∧ dfits ds')) := ⟨⟨hf, hg⟩, hf', hg'⟩
  have HL0 := Loc.new w #[.slice a ts.length p, .slice b ds.length q] 27
  have HM := Loc.new (w.alloc (.cells #[.slice a ts.length p, .slice b ds.length q] 27)) #[.slice a' ts'.length p', .slice b' ds'.length q'] 27
  rw [show (w.alloc (.cells #[.slice a ts.length p, .slice b ds.length q] 27)).heap.size = w.heap.size + 1 from by simp] at HM
  have HL := HL0.on1 (.cells #[.slice a' ts'.length p', .slice b' ds'.length q'] 27)
  have hbv : Below w.heap.size w ((w.alloc (.cells #[.slice a ts.length p, .slice b ds.length q] 27)).alloc (.cells #[.slice a' ts'.length p', .slice b' ds'.length q'] 27)) := (by repeat (first | with_reducible exact Below.refl _ _ | with_reducible assumption | with_reducible refine ch_alloc ?_ _ | with_reducible refine Below.drew ?_ | with_reducible refine below_draws _ ?_ | (with_reducible refine Below.setCell ?_ ?_ _; rotate_left; focus (first | with_reducible exact Nat.le_refl _ | (simp; done) | (simp; omega) | (simp at *; omega))) | with_reducible refine ch_trans ?_ (by with_reducible assumption)))
  clear hc hd hc' hd' hf hg hf' hg' HL0
  go_enter Try.func3, Try.ntmps3
  go_wp2_with fail
  generalize (w.alloc (.cells #[.slice a ts.length p, .slice b ds.length q] 27)).alloc (.cells #[.slice a' ts'.length p', .slice b' ds'.length q'] 27) = wv at HL HM hbv ⊢
  refine (szDb_any _ _ ts ds _ _ (HC.out.1.on hbv) (HC.out.2.on hbv) HF.out.1.1 HF.out.1.2 (by omega) (by omega)).mono ?_
  rintro e w1 ⟨r, rfl, b1, hr⟩
  have HL1 := HL.on b1
  have HM1 := HM.on b1
  have hb1 := ch_trans hbv b1
  clear b1 hbv HL HM
  obtain ⟨c0, c1⟩ := HL1.two
  obtain ⟨d0, d1⟩ := HM1.two
  rcases hr with rfl | ⟨r0, r1, few, few2⟩
  · go_wp2
    go_ret
    exact ⟨rfl, hb1⟩
  have F1 : Hid (fews ts ∧ dfews ds) := ⟨few, few2⟩
  clear few few2
  go_wp2_with fail
  refine (szDb_any _ _ ts' ds' r _ (HC'.out.1.on hb1) (HC'.out.2.on hb1) HF.out.2.1 HF.out.2.2 (by omega) (by omega)).mono ?_
  rintro e w2 ⟨r', rfl, b2, hr'⟩
  have HL2 := HL1.on b2
  have HM2 := HM1.on b2
  have hb2 := ch_trans hb1 b2
  clear b2 hb1 HL1 HM1 c0 c1 d0 d1
  obtain ⟨c0, c1⟩ := HL2.two
  obtain ⟨d0, d1⟩ := HM2.two
  rcases hr' with rfl | ⟨r0', r1', few, few2⟩
  · go_wp2
    go_ret
    exact ⟨rfl, hb2⟩
  have F2 : Hid (fews ts' ∧ dfews ds') := ⟨few, few2⟩
  clear few few2
  have HTA : Hid (∀ u : World, Below w.heap.size w u → Calls Try.prog 8 #[.agg #[.slice a ts.length p, .slice b ds.length q]] u fun e w' => ∃ y z, e = .returned (.agg #[y, z]) ∧ Below u.heap.size u w' ∧ TabsV w' y ts ∧ DataV w' z ds) := fun u hu => (toDb_any _ _ ts ds u (HC.out.1.on hu) (HC.out.2.on hu) F1.out.1 F1.out.2).mono fun e w' ⟨y, z, h1, h2, h3⟩ => ⟨y, z, h1, h2, h3.out⟩
  have HTB : Hid (∀ u : World, Below w.heap.size w u → Calls Try.prog 8 #[.agg #[.slice a' ts'.length p', .slice b' ds'.length q']] u fun e w' => ∃ y z, e = .returned (.agg #[y, z]) ∧ Below u.heap.size u w' ∧ TabsV w' y ts' ∧ DataV w' z ds') := fun u hu => (toDb_any _ _ ts' ds' u (HC'.out.1.on hu) (HC'.out.2.on hu) F2.out.1 F2.out.2).mono fun e w' ⟨y, z, h1, h2, h3⟩ => ⟨y, z, h1, h2, h3.out⟩
  clear HC HC' F1 F2
  go_wp2_with fail
  refine region_plan [([0, 2], 1), ([], 3), ([], 4)] [5] (by kernel_rfl) (by kernel_rfl) ?_
  have hgd := Grows.drawn w2
  generalize { w2 with drawn := w2.drawn + 1 } = wd at hgd ⊢
  have hbd : Below w.heap.size w wd := ch_trans hb2 hgd
  have HLd := HL2.on hgd
  have HMd := HM2.on hgd
  clear c0 c1 d0 d1 HL2 HM2 hb2 hgd
  obtain ⟨c0, c1⟩ := HLd.two
  obtain ⟨d0, d1⟩ := HMd.two
  refine plan_on (by simp only [pick, List.getElem?_toArray, List.getElem?_cons_succ, List.getElem?_cons_zero]; rfl) ?_
  repeat (go_big_quiet_step ((intro hu; have n0 := hu.cell c0; have n1 := hu.cell c1; have n2 := hu.cell d0; have n3 := hu.cell d1; go_simp; (try exact rfl))))
  refine wpQuiet_nil ?_
  refine plan_call rfl rfl (fun K hK => ?_)
  go_simp
  go_at_call 8
  refine (HTA.out _ hbd).mono ?_
  rintro e w3 ⟨y, z, rfl, b3, hy⟩
  refine ⟨_, rfl, hK _ _ ⟨b3, ?_⟩⟩
  have HYA : Hid (TabsV w3 y ts ∧ DataV w3 z ds) := hy
  have hb3 := ch_trans hbd b3
  have HL3 := HLd.on b3
  have HM3 := HMd.on b3
  clear hK K hy b3 hbd HLd HMd c0 c1 d0 d1
  refine plan_on rfl ?_
  refine wpQuiet_nil ?_
  refine plan_call rfl rfl (fun K hK => ?_)
  go_simp
  go_at_call 8
  refine (HTB.out _ hb3).mono ?_
  rintro e w4 ⟨y', z', rfl, b4, hy⟩
  refine ⟨_, rfl, hK _ _ ⟨b4, ?_⟩⟩
  have HYB : Hid (TabsV w4 y' ts' ∧ DataV w4 z' ds') := hy
  have HYA4 : Hid (TabsV w4 y ts ∧ DataV w4 z ds) := ⟨HYA.out.1.on b4, HYA.out.2.on b4⟩
  have hb4 := ch_trans hb3 b4
  have HL4 := HL3.on b4
  have HM4 := HM3.on b4
  clear hK K hy b4 hb3 HL3 HM3 HYA
  refine plan_on rfl ?_
  refine wpQuiet_nil ?_
  refine plan_call rfl rfl (fun K hK => ?_)
  go_simp
  go_at_call 7
  refine (sameDb_spec _ _ _ _ ts ts' ds ds' _ HYA4.out.1 HYA4.out.2 HYB.out.1 HYB.out.2 HF.out.1.1 HF.out.2.1).mono ?_
  rintro e w5 ⟨qz, rfl, hqz, b5⟩
  refine ⟨_, rfl, hK _ _ ⟨b5, ?_⟩⟩
  have HQ : Hid (qz = true ↔ sameDbs ts ds ts' ds') := hqz
  have hb5 := ch_trans hb4 b5
  have HL5 := HL4.on b5
  have HM5 := HM4.on b5
  clear hK K hqz b5 hb4 HL4 HM4 HYA4 HYB
  refine plan_end (by simp only [pick, List.getElem?_toArray, List.getElem?_cons_succ, List.getElem?_cons_zero]; rfl) ?_
  repeat (go_big_quiet_step ((intro hu; go_simp; (try exact rfl))))
  refine wpQuiet_nil ?_
  obtain ⟨c0, c1⟩ := HL5.two
  obtain ⟨d0, d1⟩ := HM5.two
  go_wp2_with fail
  refine (HTA.out _ hb5).mono ?_
  rintro e w6 ⟨y, z, rfl, b6, hy⟩
  obtain ⟨a6, p6, rfl, _, _⟩ := hy.1.lit
  obtain ⟨b6', q6, rfl, _, _, _⟩ := hy.2.lit
  have HX6 : Hid (TabsV w6 (.slice a6 ts.length p6) ts ∧ DataV w6 (.slice b6' ds.length q6) ds) := hy
  have HN6 := Loc.new w6 #[.slice a6 ts.length p6, .slice b6' ds.length q6] 35
  have hv6 : Below w6.heap.size w6 (w6.alloc (.cells #[.slice a6 ts.length p6, .slice b6' ds.length q6] 35)) := (by repeat (first | with_reducible exact Below.refl _ _ | with_reducible assumption | with_reducible refine ch_alloc ?_ _ | with_reducible refine Below.drew ?_ | with_reducible refine below_draws _ ?_ | (with_reducible refine Below.setCell ?_ ?_ _; rotate_left; focus (first | with_reducible exact Nat.le_refl _ | (simp; done) | (simp; omega) | (simp at *; omega))) | with_reducible refine ch_trans ?_ (by with_reducible assumption)))
  have h56 := ch_trans b6 hv6
  have hb6 := ch_trans hb5 h56
  have HL6 := HL5.on h56
  have HM6 := HM5.on h56
  have HX6' : Hid (TabsV (w6.alloc (.cells #[.slice a6 ts.length p6, .slice b6' ds.length q6] 35)) (.slice a6 ts.length p6) ts ∧ DataV (w6.alloc (.cells #[.slice a6 ts.length p6, .slice b6' ds.length q6] 35)) (.slice b6' ds.length q6) ds) := ⟨HX6.out.1.on hv6, HX6.out.2.on hv6⟩
  clear c0 c1 d0 d1 hy b6 h56 hb5 HL5 HM5 HX6 hv6
  obtain ⟨d0, d1⟩ := HM6.two
  go_wp2_with fail
  generalize hu6 : w6.alloc (.cells #[.slice a6 ts.length p6, .slice b6' ds.length q6] 35) = u6 at HN6 HL6 HM6 hb6 HX6' d0 d1 ⊢
  generalize w6.heap.size = n6 at HN6 ⊢
  clear hu6
  refine (HTB.out _ hb6).mono ?_
  rintro e w7 ⟨y, z, rfl, b7, hy⟩
  obtain ⟨a7, p7, rfl, _, _⟩ := hy.1.lit
  obtain ⟨b7', q7, rfl, _, _, _⟩ := hy.2.lit
  have HX7 : Hid (TabsV w7 (.slice a7 ts'.length p7) ts' ∧ DataV w7 (.slice b7' ds'.length q7) ds') := hy
  have HO7 := Loc.new w7 #[.slice a7 ts'.length p7, .slice b7' ds'.length q7] 35
  have hv7 : Below w7.heap.size w7 (w7.alloc (.cells #[.slice a7 ts'.length p7, .slice b7' ds'.length q7] 35)) := (by repeat (first | with_reducible exact Below.refl _ _ | with_reducible assumption | with_reducible refine ch_alloc ?_ _ | with_reducible refine Below.drew ?_ | with_reducible refine below_draws _ ?_ | (with_reducible refine Below.setCell ?_ ?_ _; rotate_left; focus (first | with_reducible exact Nat.le_refl _ | (simp; done) | (simp; omega) | (simp at *; omega))) | with_reducible refine ch_trans ?_ (by with_reducible assumption)))
  have h67 := ch_trans b7 hv7
  have hb7 := ch_trans hb6 h67
  have HL7 := HL6.on h67
  have HM7 := HM6.on h67
  have HN7 := HN6.on h67
  have HXA : Hid (TabsV (w7.alloc (.cells #[.slice a7 ts'.length p7, .slice b7' ds'.length q7] 35)) (.slice a6 ts.length p6) ts ∧ DataV (w7.alloc (.cells #[.slice a7 ts'.length p7, .slice b7' ds'.length q7] 35)) (.slice b6' ds.length q6) ds) := ⟨HX6'.out.1.on h67, HX6'.out.2.on h67⟩
  have HXB : Hid (TabsV (w7.alloc (.cells #[.slice a7 ts'.length p7, .slice b7' ds'.length q7] 35)) (.slice a7 ts'.length p7) ts' ∧ DataV (w7.alloc (.cells #[.slice a7 ts'.length p7, .slice b7' ds'.length q7] 35)) (.slice b7' ds'.length q7) ds') := ⟨HX7.out.1.on hv7, HX7.out.2.on hv7⟩
  clear d0 d1 hy b7 h67 hb6 HL6 HM6 HN6 HX6' HX7 hv7
  obtain ⟨n0, n1⟩ := HN7.two
  go_wp2_with fail
  generalize hu7 : w7.alloc (.cells #[.slice a7 ts'.length p7, .slice b7' ds'.length q7] 35) = u7 at HN7 HL7 HM7 HO7 hb7 HXA HXB n0 n1 ⊢
  generalize w7.heap.size = n7 at HO7 ⊢
  clear hu7
  refine (sameDb_impl _ _ _ _ ts ts' ds ds' _ HXA.out.1 HXA.out.2 HXB.out.1 HXB.out.2 HF.out.1.1 HF.out.2.1).mono ?_
  rintro e w8 ⟨qy, rfl, hqy, b8⟩
  obtain rfl : qy = qz := Bool.eq_iff_iff.2 (hqy.trans HQ.out.symm)
  have hb8 := ch_trans hb7 b8
  have HL8 := HL7.on b8
  have HM8 := HM7.on b8
  have HN8 := HN7.on b8
  have HO8 := HO7.on b8
  have HXA8 : Hid (TabsV w8 (.slice a6 ts.length p6) ts ∧ DataV w8 (.slice b6' ds.length q6) ds) := ⟨HXA.out.1.on b8, HXA.out.2.on b8⟩
  have HXB8 : Hid (TabsV w8 (.slice a7 ts'.length p7) ts' ∧ DataV w8 (.slice b7' ds'.length q7) ds') := ⟨HXB.out.1.on b8, HXB.out.2.on b8⟩
  clear n0 n1 hqy HQ b8 hb7 HL7 HM7 HN7 HO7 HXA HXB
  obtain ⟨c0, c1⟩ := HL8.two
  obtain ⟨n0, n1⟩ := HN8.two
  have hqq : (qy != qy) = false := by simp
  go_wp2_with fail
  refine region_plan [([0, 1], 2), ([], 3)] [4] (by kernel_rfl) (by kernel_rfl) ?_
  have hgd := Grows.drawn w8
  generalize { w8 with drawn := w8.drawn + 1 } = wd9 at hgd ⊢
  have hbd := ch_trans hb8 hgd
  have c0 := cell_on c0 hgd
  have c1 := cell_on c1 hgd
  have n0 := cell_on n0 hgd
  have n1 := cell_on n1 hgd
  refine plan_on (by simp only [pick, List.getElem?_toArray, List.getElem?_cons_succ, List.getElem?_cons_zero]; rfl) ?_
  repeat (go_big_quiet_step ((intro hu; have i0 := hu.cell c0; have i1 := hu.cell c1; have i2 := hu.cell n0; have i3 := hu.cell n1; go_simp; (try exact rfl))))
  refine wpQuiet_nil ?_
  refine plan_call rfl rfl (fun K hK => ?_)
  go_simp
  go_at_call 8
  refine (HTA.out _ hbd).mono ?_
  rintro e wt9 ⟨y, z, rfl, bt, hy⟩
  refine ⟨_, rfl, hK _ _ ⟨bt, ?_⟩⟩
  have HYT : Hid (TabsV wt9 y ts ∧ DataV wt9 z ds) := hy
  have hgt := ch_trans hgd bt
  clear hK K hy c0 c1 n0 n1
  refine plan_on rfl ?_
  refine wpQuiet_nil ?_
  refine plan_call rfl rfl (fun K hK => ?_)
  go_simp
  go_at_call 10
  refine (eqDb_same _ _ _ _ ts ds _ (HXA8.out.1.on hgt) (HXA8.out.2.on hgt) HYT.out.1 HYT.out.2).mono ?_
  rintro e we9 ⟨rfl, be⟩
  refine ⟨_, rfl, hK _ _ ⟨be, ?_⟩⟩
  have hge9 := ch_trans hgt be
  have hb9 := ch_trans hb8 hge9
  clear hK K hgt be hgd hbd bt HYT
  refine plan_end (by simp only [pick, List.getElem?_toArray, List.getElem?_cons_succ, List.getElem?_cons_zero]; rfl) ?_
  repeat (go_big_quiet_step ((intro hu; go_simp; (try exact rfl))))
  refine wpQuiet_nil ?_
  have HM9 := HM8.on hge9
  have HO9 := HO8.on hge9
  have HXB9 : Hid (TabsV we9 (.slice a7 ts'.length p7) ts' ∧ DataV we9 (.slice b7' ds'.length q7) ds') := ⟨HXB8.out.1.on hge9, HXB8.out.2.on hge9⟩
  obtain ⟨c0, c1⟩ := HM9.two
  obtain ⟨n0, n1⟩ := HO9.two
  go_wp2_with fail
  refine region_plan [([0, 1], 2), ([], 3)] [4] (by kernel_rfl) (by kernel_rfl) ?_
  have hgd := Grows.drawn we9
  generalize { we9 with drawn := we9.drawn + 1 } = wd10 at hgd ⊢
  have hbd := ch_trans hb9 hgd
  have c0 := cell_on c0 hgd
  have c1 := cell_on c1 hgd
  have n0 := cell_on n0 hgd
  have n1 := cell_on n1 hgd
  refine plan_on (by simp only [pick, List.getElem?_toArray, List.getElem?_cons_succ, List.getElem?_cons_zero]; rfl) ?_
  repeat (go_big_quiet_step ((intro hu; have i0 := hu.cell c0; have i1 := hu.cell c1; have i2 := hu.cell n0; have i3 := hu.cell n1; go_simp; (try exact rfl))))
  refine wpQuiet_nil ?_
  refine plan_call rfl rfl (fun K hK => ?_)
  go_simp
  go_at_call 8
  refine (HTB.out _ hbd).mono ?_
  rintro e wt10 ⟨y, z, rfl, bt, hy⟩
  refine ⟨_, rfl, hK _ _ ⟨bt, ?_⟩⟩
  have HYT : Hid (TabsV wt10 y ts' ∧ DataV wt10 z ds') := hy
  have hgt := ch_trans hgd bt
  clear hK K hy c0 c1 n0 n1
  refine plan_on rfl ?_
  refine wpQuiet_nil ?_
  refine plan_call rfl rfl (fun K hK => ?_)
  go_simp
  go_at_call 10
  refine (eqDb_same _ _ _ _ ts' ds' _ (HXB9.out.1.on hgt) (HXB9.out.2.on hgt) HYT.out.1 HYT.out.2).mono ?_
  rintro e we10 ⟨rfl, be⟩
  refine ⟨_, rfl, hK _ _ ⟨be, ?_⟩⟩
  have hge10 := ch_trans hgt be
  have hb10 := ch_trans hb9 hge10
  clear hK K hgt be hgd hbd bt HYT
  refine plan_end (by simp only [pick, List.getElem?_toArray, List.getElem?_cons_succ, List.getElem?_cons_zero]; rfl) ?_
  repeat (go_big_quiet_step ((intro hu; go_simp; (try exact rfl))))
  refine wpQuiet_nil ?_
  go_wp2
  go_ret
  exact ⟨rfl, hb10⟩

theorem own : ownKnob Try.prog.godebug = none := by kernel_rfl
theorem laidOut : laidOutB Try.prog = true := by kernel_rfl

set_option maxRecDepth 100000 in
theorem lifted (os : Os) (started : os.Started) (H : Type) (enc : TypeId × Value → H) :
    ReturnsInHanded {} Try.checked os 3 .any (Rows.fnExactSameDbSpec.pre6 enc Try.prog Try.f3 Rows.fnExactSameDbRow.domain false) (Rows.fnExactSameDbSpec.post enc Try.prog Try.f3 false true false false) := by
  refine returnsInHanded_of_change (C := Try.checked) own started (by kernel_rfl) Try.func3
    (ChangeSpec.witness6 (enc := enc) (C := Try.checked) false ⟨#[], #[.agg #[.slice none 0 0, .slice none 0 0], .agg #[.slice none 0 0, .slice none 0 0]], []⟩ 8 (by kernel_rfl) (by kernel_rfl) (by kernel_rfl) (by kernel_rfl)) ?_
  intro W base args ds gs before hval0 hW _ _
  have hval : ∀ (j : Nat) t v, Try.f3.params[j]? = some t → args[j]? = some v → Value.okWide Try.prog W .any base t v := hval0
  have hW' := hW
  obtain ⟨p, q, hA0, hV, rfl, _, _⟩ := hW
  have hA : DataW.TrodAll enc Try.prog W 0 (fun _ => true) true Try.f3.params.toList args.toList ds p := hA0
  rw [Try.params3] at hA hval
  obtain ⟨v0, v1, d0, d1, p0, p1, rfl, rfl, rfl, h0, h1⟩ := trodAll_two hA
  obtain ⟨rfl, rfl⟩ := trodVars_none hV
  have h0k := h0
  have h1k := h1
  obtain ⟨cs, rfl, hsz⟩ := okWide_struct Try.underlying27 (hval 0 27 v0 rfl rfl)
  obtain ⟨k, hk⟩ := h0
  obtain ⟨v, u, t, d, hc, hx, hd, hf, hg⟩ := open_db hk
  have hc' : cs = #[v, u] := by apply Array.toList_inj.1; simpa [Value.cells] using hc
  subst hc'
  obtain ⟨cs1, rfl, hsz1⟩ := okWide_struct Try.underlying27 (hval 1 27 v1 rfl rfl)
  obtain ⟨k1, hk1⟩ := h1
  obtain ⟨v1, u1, t1, d1', hc1, hx1, hd1, hf1, hg1⟩ := open_db hk1
  have hc1' : cs1 = #[v1, u1] := by apply Array.toList_inj.1; simpa [Value.cells] using hc1
  subst hc1'
  clear hA0 hval0
  simp only [List.append_nil] at hW'
  have hlt : ∀ x ∈ p0, x.block < W.heap.size := fun x hx => by simpa using hW'.lt x (by simp [hx])
  have hlt1 : ∀ x ∈ p1, x.block < W.heap.size := fun x hx => by simpa using hW'.lt x (by simp [hx])
  refine (walk v u v1 u1 t t1 d d1' W hx hd hx1 hd1 hf hg hf1 hg1).mono fun e W' ⟨he, bel⟩ => ?_
  subst he
  exact ⟨_, rfl, _, _, _, [], _, [], hW', trodAll_mk1 (shut_bool Try.underlying4 _), trodAll_mk2 (Below.trod laidOut (by kernel_rfl) (of_decide_eq_true (by kernel_rfl)) h0k bel hlt) (Below.trod laidOut (by kernel_rfl) (of_decide_eq_true (by kernel_rfl)) h1k bel hlt1), rfl, bel.frame _, fun h => by cases h⟩

theorem over : Rows.FnExactSameDbSaid :=
  OpenClaim.holds_of_wide 3 Try.f3 rfl rfl rfl rfl rfl rfl rfl ⟨rfl, rfl, rfl, rfl, rfl⟩ rfl rfl rfl rfl rfl (by kernel_rfl) Try.func3 (by kernel_rfl)
    (of_decide_eq_true (by kernel_rfl)) (by unfold Func.isWrapper; first | (rw [if_pos (by decide +kernel)]; kernel_rfl) | (rw [if_neg (by decide +kernel)]; exact ⟨rfl, rfl⟩))
    (fun os started H enc _ => lifted os started H enc)
end Go.Proofs.Ytbpdbhchnpnabal.lawSameDb
namespace Go.Proofs.Ytbpdbhchnpnabal
theorem fnExactSameDb_holds : Rows.FnExactSameDbSaid := lawSameDb.over
#print axioms fnExactSameDb_holds
end Go.Proofs.Ytbpdbhchnpnabal
