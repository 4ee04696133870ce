/- For every two stores the landed Diff answers as the given one does, leaves the stores as they were, and its answer owns its memory: 'FnExactDiff' returns true at every argument, with no condition; its arguments read afterwards as they read before. -/
import Derived.Test.YtihilcffmdjhhalGreatDx
import Derived.Test.YtihilcffmdjhhalGreatMs
import Derived.Test.YtihilcffmdjhhalGreatTt
import Derived.Test.YtihilcffmdjhhalGreatOpenDb
import Derived.Test.YtihilcffmdjhhalGreatOpenDb
import Derived.Test.YtihilcffmdjhhalGreatOrd
namespace Go.Proofs.YtihilcffmdjhhalGreat.lawDiff
open Go.ChangeShapes Go.WideShapes Go.ChangeAt Go.RowKit

theorem shape_on {S : Nat → Prop} {w w' : World} {v d : Value} (b : Below w.heap.size w w') (h : TabsS S w v ∧ DataS S w d) : TabsS S w' v ∧ DataS S w' d :=
  ⟨TabsS.good.holds S _ _ _ (fun c _ hc => b.block c hc) h.1, DataS.good.holds S _ _ _ (fun c _ hc => b.block c hc) h.2⟩

set_option maxRecDepth 100000 in
set_option maxHeartbeats 4000000 in
theorem walk (cv dv cv' dv' : Value) (ts ts' : List Tc) (ds ds' : List (List (List Vc))) (w : World) (hc : TabsV w cv ts) (hd : DataV w dv ds) (hc' : TabsV w cv' ts') (hd' : DataV w dv' ds') (hf : fits ts) (hg : dfits ds) (hf' : fits ts') (hg' : dfits ds') :
    Calls Tryz.prog 3 #[.agg #[cv, dv], .agg #[cv', dv']] w fun e w' => e = .returned (.bool true) ∧ Below w.heap.size w w' := by
  obtain ⟨a, p, rfl, _, _⟩ := hc.lit
  obtain ⟨b, q, rfl, _, _, _⟩ := hd.lit
  obtain ⟨a', p', rfl, _, _⟩ := hc'.lit
  obtain ⟨b', q', rfl, _, _, _⟩ := hd'.lit
  have HC : Hid (TabsV w (.slice a ts.length p) ts ∧ DataV w (.slice b ds.length q) ds) := ⟨hc, hd⟩
  have HC' : Hid (TabsV w (.slice a' ts'.length p') ts' ∧ DataV w (.slice b' ds'.length q') ds') := ⟨hc', hd'⟩
  have HF : Hid ((fits ts ∧ dfits ds) ∧ (fits ts' ∧ dfits ds')) := ⟨⟨hf, hg⟩, hf', hg'⟩
  have HL0 := Loc.new w #[.slice a ts.length p, .slice b ds.length q] 27
  have HM := Loc.new (w.alloc (.cells #[.slice a ts.length p, .slice b ds.length q] 27)) #[.slice a' ts'.length p', .slice b' ds'.length q'] 27
  rw [show (w.alloc (.cells #[.slice a ts.length p, .slice b ds.length q] 27)).heap.size = w.heap.size + 1 from by simp] at HM
  have HL := HL0.on1 (.cells #[.slice a' ts'.length p', .slice b' ds'.length q'] 27)
  have hbv : Below w.heap.size w ((w.alloc (.cells #[.slice a ts.length p, .slice b ds.length q] 27)).alloc (.cells #[.slice a' ts'.length p', .slice b' ds'.length q'] 27)) := (by repeat (first | with_reducible exact Below.refl _ _ | with_reducible assumption | with_reducible refine ch_alloc ?_ _ | with_reducible refine Below.drew ?_ | with_reducible refine below_draws _ ?_ | (with_reducible refine Below.setCell ?_ ?_ _; rotate_left; focus (first | with_reducible exact Nat.le_refl _ | (simp; done) | (simp; omega) | (simp at *; omega))) | with_reducible refine ch_trans ?_ (by with_reducible assumption)))
  clear hc hd hc' hd' hf hg hf' hg' HL0
  go_enter Tryz.func3, Tryz.ntmps3
  go_wp2_with fail
  generalize (w.alloc (.cells #[.slice a ts.length p, .slice b ds.length q] 27)).alloc (.cells #[.slice a' ts'.length p', .slice b' ds'.length q'] 27) = wv at HL HM hbv ⊢
  refine (szDb_any _ _ ts ds _ _ (HC.out.1.on hbv) (HC.out.2.on hbv) HF.out.1.1 HF.out.1.2 (by omega) (by omega)).mono ?_
  rintro e w1 ⟨r, rfl, b1, hr⟩
  have HL1 := HL.on b1
  have HM1 := HM.on b1
  have hb1 := ch_trans hbv b1
  clear b1 hbv HL HM
  obtain ⟨c0, c1⟩ := HL1.two
  obtain ⟨d0, d1⟩ := HM1.two
  rcases hr with rfl | ⟨r0, r1, few, few2⟩
  · go_wp2
    go_ret
    exact ⟨rfl, hb1⟩
  have F1 : Hid (fews ts ∧ dfews ds) := ⟨few, few2⟩
  clear few few2
  go_wp2_with fail
  refine (szDb_any _ _ ts' ds' r _ (HC'.out.1.on hb1) (HC'.out.2.on hb1) HF.out.2.1 HF.out.2.2 (by omega) (by omega)).mono ?_
  rintro e w2 ⟨r', rfl, b2, hr'⟩
  have HL2 := HL1.on b2
  have HM2 := HM1.on b2
  have hb2 := ch_trans hb1 b2
  clear b2 hb1 HL1 HM1 c0 c1 d0 d1
  obtain ⟨c0, c1⟩ := HL2.two
  obtain ⟨d0, d1⟩ := HM2.two
  rcases hr' with rfl | ⟨r0', r1', few, few2⟩
  · go_wp2
    go_ret
    exact ⟨rfl, hb2⟩
  have F2 : Hid (fews ts' ∧ dfews ds') := ⟨few, few2⟩
  clear few few2
  have HTA : Hid (∀ u : World, Below w.heap.size w u → Calls Tryz.prog 7 #[.agg #[.slice a ts.length p, .slice b ds.length q]] u fun e w' => ∃ y z, e = .returned (.agg #[y, z]) ∧ Below u.heap.size u w' ∧ (TabsV w' y ts ∧ DataV w' z ds) ∧ New TabsS u.heap.size w' y ∧ New DataS u.heap.size w' z) := fun u hu => (toDb_full _ _ ts ds u (HC.out.1.on hu) (HC.out.2.on hu) F1.out.1 F1.out.2).mono fun e w' ⟨y, z, h1, h2, h3, h4⟩ => ⟨y, z, h1, h2, h3.out, h4⟩
  have HTB : Hid (∀ u : World, Below w.heap.size w u → Calls Tryz.prog 7 #[.agg #[.slice a' ts'.length p', .slice b' ds'.length q']] u fun e w' => ∃ y z, e = .returned (.agg #[y, z]) ∧ Below u.heap.size u w' ∧ (TabsV w' y ts' ∧ DataV w' z ds') ∧ New TabsS u.heap.size w' y ∧ New DataS u.heap.size w' z) := fun u hu => (toDb_full _ _ ts' ds' u (HC'.out.1.on hu) (HC'.out.2.on hu) F2.out.1 F2.out.2).mono fun e w' ⟨y, z, h1, h2, h3, h4⟩ => ⟨y, z, h1, h2, h3.out, h4⟩
  clear HC HC' F1 F2
  go_wp2_with fail
  refine region_plan [([0, 2], 1), ([], 3), ([], 4)] [5] (by kernel_rfl) (by kernel_rfl) ?_
  have hgd := Grows.drawn w2
  generalize { w2 with drawn := w2.drawn + 1 } = wd at hgd ⊢
  have hbd : Below w.heap.size w wd := ch_trans hb2 hgd
  have HLd := HL2.on hgd
  have HMd := HM2.on hgd
  clear c0 c1 d0 d1 HL2 HM2 hb2 hgd
  obtain ⟨c0, c1⟩ := HLd.two
  obtain ⟨d0, d1⟩ := HMd.two
  refine plan_on (by simp only [pick, List.getElem?_toArray, List.getElem?_cons_succ, List.getElem?_cons_zero]; rfl) ?_
  repeat (go_big_quiet_step ((intro hu; have n0 := hu.cell c0; have n1 := hu.cell c1; have n2 := hu.cell d0; have n3 := hu.cell d1; go_simp; (try exact rfl))))
  refine wpQuiet_nil ?_
  refine plan_call rfl rfl (fun K hK => ?_)
  go_simp
  go_at_call 7
  refine (HTA.out _ hbd).mono ?_
  rintro e w3 ⟨y, z, rfl, b3, hy, _⟩
  refine ⟨_, rfl, hK _ _ ⟨b3, ?_⟩⟩
  have HYA : Hid (TabsV w3 y ts ∧ DataV w3 z ds) := hy
  have hb3 := ch_trans hbd b3
  have HL3 := HLd.on b3
  have HM3 := HMd.on b3
  clear hK K hy b3 hbd HLd HMd c0 c1 d0 d1
  refine plan_on rfl ?_
  refine wpQuiet_nil ?_
  refine plan_call rfl rfl (fun K hK => ?_)
  go_simp
  go_at_call 7
  refine (HTB.out _ hb3).mono ?_
  rintro e w4 ⟨y', z', rfl, b4, hy, _⟩
  refine ⟨_, rfl, hK _ _ ⟨b4, ?_⟩⟩
  have HYB : Hid (TabsV w4 y' ts' ∧ DataV w4 z' ds') := hy
  have HYA4 : Hid (TabsV w4 y ts ∧ DataV w4 z ds) := ⟨HYA.out.1.on b4, HYA.out.2.on b4⟩
  have hb4 := ch_trans hb3 b4
  have HL4 := HL3.on b4
  have HM4 := HM3.on b4
  clear hK K hy b4 hb3 HL3 HM3 HYA
  refine plan_on rfl ?_
  refine wpQuiet_nil ?_
  refine plan_call rfl rfl (fun K hK => ?_)
  go_simp
  go_at_call 6
  refine (diff_spec _ _ _ _ ts ts' ds ds' _ HYA4.out.1 HYA4.out.2 HYB.out.1 HYB.out.2 HF.out.1.1 HF.out.2.1).mono ?_
  rintro e w5 ⟨kv0, ns, rfl, hqz, hnl, b5, hg0⟩
  obtain ⟨ga, gn, gc, rfl, hg0⟩ := hg0.lit2
  refine ⟨_, rfl, hK _ _ ⟨b5, ?_⟩⟩
  have HQ : Hid (isDiff ts ds ts' ds' ns) := hqz
  have HG0 : Hid (StrsV w5 (.slice ga gn gc) ns) := hg0.strs
  clear hg0
  have hb5 := ch_trans hb4 b5
  have HL5 := HL4.on b5
  have HM5 := HM4.on b5
  clear hK K hqz b5 hb4 HL4 HM4 HYA4 HYB
  refine plan_end (by simp only [pick, List.getElem?_toArray, List.getElem?_cons_succ, List.getElem?_cons_zero]; rfl) ?_
  repeat (go_big_quiet_step ((intro hu; go_simp; (try exact rfl))))
  refine wpQuiet_nil ?_
  obtain ⟨c0, c1⟩ := HL5.two
  obtain ⟨d0, d1⟩ := HM5.two
  go_wp2_with fail
  refine (HTA.out _ hb5).mono ?_
  rintro e w6 ⟨y, z, rfl, b6, hy, hnt, hnd⟩
  obtain ⟨a6, p6, rfl, _, _⟩ := hy.1.lit
  obtain ⟨b6', q6, rfl, _, _, _⟩ := hy.2.lit
  obtain ⟨S0, hSd⟩ : ∃ S : Nat → Prop, S = fun c => w5.heap.size ≤ c ∧ c < w6.heap.size := ⟨_, rfl⟩
  have HSH : Hid (TabsS S0 w6 (.slice a6 ts.length p6) ∧ DataS S0 w6 (.slice b6' ds.length q6)) := by subst hSd; exact ⟨hnt, hnd⟩
  have HSD0 : Hid (∀ c, S0 c → w5.heap.size ≤ c ∧ c < w6.heap.size) := by subst hSd; exact fun c h => h
  have HX6 : Hid (TabsV w6 (.slice a6 ts.length p6) ts ∧ DataV w6 (.slice b6' ds.length q6) ds) := hy
  have HN6 := Loc.new w6 #[.slice a6 ts.length p6, .slice b6' ds.length q6] 36
  have hv6 : Below w6.heap.size w6 (w6.alloc (.cells #[.slice a6 ts.length p6, .slice b6' ds.length q6] 36)) := (by repeat (first | with_reducible exact Below.refl _ _ | with_reducible assumption | with_reducible refine ch_alloc ?_ _ | with_reducible refine Below.drew ?_ | with_reducible refine below_draws _ ?_ | (with_reducible refine Below.setCell ?_ ?_ _; rotate_left; focus (first | with_reducible exact Nat.le_refl _ | (simp; done) | (simp; omega) | (simp at *; omega))) | with_reducible refine ch_trans ?_ (by with_reducible assumption)))
  have hz6 : (w6.alloc (.cells #[.slice a6 ts.length p6, .slice b6' ds.length q6] 36)).heap.size = w6.heap.size + 1 := by simp
  have hs6 : w5.heap.size ≤ w6.heap.size := b6.size
  have k6 := ch_trans b6 hv6
  have hb6 := ch_trans hb5 k6
  have HM6 := HM5.on k6
  have HX6' : Hid (TabsV (w6.alloc (.cells #[.slice a6 ts.length p6, .slice b6' ds.length q6] 36)) (.slice a6 ts.length p6) ts ∧ DataV (w6.alloc (.cells #[.slice a6 ts.length p6, .slice b6' ds.length q6] 36)) (.slice b6' ds.length q6) ds) := ⟨HX6.out.1.on hv6, HX6.out.2.on hv6⟩
  have HSH6 : Hid (TabsS S0 (w6.alloc (.cells #[.slice a6 ts.length p6, .slice b6' ds.length q6] 36)) (.slice a6 ts.length p6) ∧ DataS S0 (w6.alloc (.cells #[.slice a6 ts.length p6, .slice b6' ds.length q6] 36)) (.slice b6' ds.length q6)) := shape_on hv6 HSH.out
  clear c0 c1 d0 d1 hy b6 HX6 hv6 hSd hnt hnd HSH
  obtain ⟨d0, d1⟩ := HM6.two
  go_wp2_with fail
  generalize hu6 : w6.alloc (.cells #[.slice a6 ts.length p6, .slice b6' ds.length q6] 36) = u6 at HN6 HM6 hb6 k6 hz6 HX6' HSH6 d0 d1 ⊢
  generalize w6.heap.size = n6 at HN6 HSD0 hz6 hs6 ⊢
  clear hu6
  refine (HTB.out _ hb6).mono ?_
  rintro e w7 ⟨y, z, rfl, b7, hy, hnt, hnd⟩
  obtain ⟨a7, p7, rfl, _, _⟩ := hy.1.lit
  obtain ⟨b7', q7, rfl, _, _, _⟩ := hy.2.lit
  obtain ⟨S1, hSd⟩ : ∃ S : Nat → Prop, S = fun c => u6.heap.size ≤ c ∧ c < w7.heap.size := ⟨_, rfl⟩
  have HSI : Hid (TabsS S1 w7 (.slice a7 ts'.length p7) ∧ DataS S1 w7 (.slice b7' ds'.length q7)) := by subst hSd; exact ⟨hnt, hnd⟩
  have HSD1 : Hid (∀ c, S1 c → n6 + 1 ≤ c ∧ c < w7.heap.size) := by subst hSd; exact fun c h => ⟨hz6 ▸ h.1, h.2⟩
  have HX7 : Hid (TabsV w7 (.slice a7 ts'.length p7) ts' ∧ DataV w7 (.slice b7' ds'.length q7) ds') := hy
  have HO7 := Loc.new w7 #[.slice a7 ts'.length p7, .slice b7' ds'.length q7] 36
  have hv7 : Below w7.heap.size w7 (w7.alloc (.cells #[.slice a7 ts'.length p7, .slice b7' ds'.length q7] 36)) := (by repeat (first | with_reducible exact Below.refl _ _ | with_reducible assumption | with_reducible refine ch_alloc ?_ _ | with_reducible refine Below.drew ?_ | with_reducible refine below_draws _ ?_ | (with_reducible refine Below.setCell ?_ ?_ _; rotate_left; focus (first | with_reducible exact Nat.le_refl _ | (simp; done) | (simp; omega) | (simp at *; omega))) | with_reducible refine ch_trans ?_ (by with_reducible assumption)))
  have hz7 : (w7.alloc (.cells #[.slice a7 ts'.length p7, .slice b7' ds'.length q7] 36)).heap.size = w7.heap.size + 1 := by simp
  have hs7 : n6 + 1 ≤ w7.heap.size := hz6 ▸ b7.size
  have h67 := ch_trans b7 hv7
  have k7 := ch_trans k6 h67
  have HN7 := HN6.on h67
  have HXA : Hid (TabsV (w7.alloc (.cells #[.slice a7 ts'.length p7, .slice b7' ds'.length q7] 36)) (.slice a6 ts.length p6) ts ∧ DataV (w7.alloc (.cells #[.slice a7 ts'.length p7, .slice b7' ds'.length q7] 36)) (.slice b6' ds.length q6) ds) := ⟨HX6'.out.1.on h67, HX6'.out.2.on h67⟩
  have HXB : Hid (TabsV (w7.alloc (.cells #[.slice a7 ts'.length p7, .slice b7' ds'.length q7] 36)) (.slice a7 ts'.length p7) ts' ∧ DataV (w7.alloc (.cells #[.slice a7 ts'.length p7, .slice b7' ds'.length q7] 36)) (.slice b7' ds'.length q7) ds') := ⟨HX7.out.1.on hv7, HX7.out.2.on hv7⟩
  have HSH7 : Hid ((TabsS S0 (w7.alloc (.cells #[.slice a7 ts'.length p7, .slice b7' ds'.length q7] 36)) (.slice a6 ts.length p6) ∧ DataS S0 (w7.alloc (.cells #[.slice a7 ts'.length p7, .slice b7' ds'.length q7] 36)) (.slice b6' ds.length q6)) ∧ (TabsS S1 (w7.alloc (.cells #[.slice a7 ts'.length p7, .slice b7' ds'.length q7] 36)) (.slice a7 ts'.length p7) ∧ DataS S1 (w7.alloc (.cells #[.slice a7 ts'.length p7, .slice b7' ds'.length q7] 36)) (.slice b7' ds'.length q7))) := ⟨shape_on h67 HSH6.out, shape_on hv7 HSI.out⟩
  clear d0 d1 hy b7 h67 hb6 HM6 HN6 HX6' HX7 hv7 hSd hnt hnd HSI HSH6 k6 hz6
  obtain ⟨n0, n1⟩ := HN7.two
  go_wp2_with fail
  generalize hu7 : w7.alloc (.cells #[.slice a7 ts'.length p7, .slice b7' ds'.length q7] 36) = u7 at HN7 HO7 k7 hz7 HXA HXB HSH7 n0 n1 ⊢
  generalize w7.heap.size = n7 at HO7 HSD1 hz7 hs7 ⊢
  clear hu7
  refine (diff_impl _ _ _ _ ts ts' ds ds' _ HXA.out.1 HXA.out.2 HXB.out.1 HXB.out.2 HF.out.1.1 HF.out.2.1).mono ?_
  rintro e w8 ⟨kv1, ns1, rfl, hqy, _, b8, hg1⟩
  obtain rfl : ns1 = ns := hqy.unique HQ.out
  obtain ⟨ha, hn, hc, rfl, hg1⟩ := hg1.lit2
  rw [hz7] at hg1
  have HG8 : Hid (Got w8 (n7 + 1) 9 1 (.slice ha hn hc) (ns1.map strX)) := hg1
  have k8 := ch_trans k7 b8
  have HN8 := HN7.on b8
  have HO8 := HO7.on b8
  have hs8 : n7 + 1 ≤ w8.heap.size := hz7 ▸ b8.size
  have HXA8 : Hid (TabsV w8 (.slice a6 ts.length p6) ts ∧ DataV w8 (.slice b6' ds.length q6) ds) := ⟨HXA.out.1.on b8, HXA.out.2.on b8⟩
  have HXB8 : Hid (TabsV w8 (.slice a7 ts'.length p7) ts' ∧ DataV w8 (.slice b7' ds'.length q7) ds') := ⟨HXB.out.1.on b8, HXB.out.2.on b8⟩
  have HSH8 : Hid ((TabsS S0 w8 (.slice a6 ts.length p6) ∧ DataS S0 w8 (.slice b6' ds.length q6)) ∧ (TabsS S1 w8 (.slice a7 ts'.length p7) ∧ DataS S1 w8 (.slice b7' ds'.length q7))) := ⟨shape_on b8 HSH7.out.1, shape_on b8 HSH7.out.2⟩
  clear n0 n1 hqy b8 HN7 HO7 HXA HXB hg1 HSH7 k7 hz7
  go_wp2_with fail
  refine (eqStringS_same _ _ ns1 _ HG8.out.strs (HG0.out.on k8)).mono ?_
  rintro e v8 ⟨rfl, b9⟩
  have k9 := ch_trans k8 b9
  have HLz := HL5.on k9
  have hb9 := ch_trans hb5 k9
  have HNz := HN8.on b9
  obtain ⟨c0, c1⟩ := HLz.two
  obtain ⟨n0, n1⟩ := HNz.two
  have HXA9 : Hid (TabsV v8 (.slice a6 ts.length p6) ts ∧ DataV v8 (.slice b6' ds.length q6) ds) := ⟨HXA8.out.1.on b9, HXA8.out.2.on b9⟩
  go_wp2_with fail
  refine region_plan [([0, 1], 2), ([], 3)] [4] (by kernel_rfl) (by kernel_rfl) ?_
  have hgd := Grows.drawn v8
  generalize { v8 with drawn := v8.drawn + 1 } = wd9 at hgd ⊢
  have hbd := ch_trans hb9 hgd
  have c0 := cell_on c0 hgd
  have c1 := cell_on c1 hgd
  have n0 := cell_on n0 hgd
  have n1 := cell_on n1 hgd
  refine plan_on (by simp only [pick, List.getElem?_toArray, List.getElem?_cons_succ, List.getElem?_cons_zero]; rfl) ?_
  repeat (go_big_quiet_step ((intro hu; have i0 := hu.cell c0; have i1 := hu.cell c1; have i2 := hu.cell n0; have i3 := hu.cell n1; go_simp; (try exact rfl))))
  refine wpQuiet_nil ?_
  refine plan_call rfl rfl (fun K hK => ?_)
  go_simp
  go_at_call 7
  refine (HTA.out _ hbd).mono ?_
  rintro e wt9 ⟨y, z, rfl, bt, hy, _⟩
  refine ⟨_, rfl, hK _ _ ⟨bt, ?_⟩⟩
  have HYT : Hid (TabsV wt9 y ts ∧ DataV wt9 z ds) := hy
  have hgt := ch_trans hgd bt
  clear hK K hy c0 c1 n0 n1
  refine plan_on rfl ?_
  refine wpQuiet_nil ?_
  refine plan_call rfl rfl (fun K hK => ?_)
  go_simp
  go_at_call 10
  refine (eqDb_same _ _ _ _ ts ds _ (HXA9.out.1.on hgt) (HXA9.out.2.on hgt) HYT.out.1 HYT.out.2).mono ?_
  rintro e we9 ⟨rfl, be⟩
  refine ⟨_, rfl, hK _ _ ⟨be, ?_⟩⟩
  have hge9 := ch_trans hgt be
  clear hK K hgt be hgd hbd bt HYT
  refine plan_end (by simp only [pick, List.getElem?_toArray, List.getElem?_cons_succ, List.getElem?_cons_zero]; rfl) ?_
  repeat (go_big_quiet_step ((intro hu; go_simp; (try exact rfl))))
  refine wpQuiet_nil ?_
  have h8 := ch_trans b9 hge9
  have k10 := ch_trans k8 h8
  have hb10 := ch_trans hb5 k10
  have HMz := HM5.on k10
  have HOz := HO8.on h8
  have HXB9 : Hid (TabsV we9 (.slice a7 ts'.length p7) ts' ∧ DataV we9 (.slice b7' ds'.length q7) ds') := ⟨HXB8.out.1.on h8, HXB8.out.2.on h8⟩
  clear k9 hb9 HLz HNz HXA9 hge9 b9
  obtain ⟨c0, c1⟩ := HMz.two
  obtain ⟨n0, n1⟩ := HOz.two
  go_wp2_with fail
  refine region_plan [([0, 1], 2), ([], 3)] [4] (by kernel_rfl) (by kernel_rfl) ?_
  have hgd := Grows.drawn we9
  generalize { we9 with drawn := we9.drawn + 1 } = wd10 at hgd ⊢
  have hbd := ch_trans hb10 hgd
  have c0 := cell_on c0 hgd
  have c1 := cell_on c1 hgd
  have n0 := cell_on n0 hgd
  have n1 := cell_on n1 hgd
  refine plan_on (by simp only [pick, List.getElem?_toArray, List.getElem?_cons_succ, List.getElem?_cons_zero]; rfl) ?_
  repeat (go_big_quiet_step ((intro hu; have i0 := hu.cell c0; have i1 := hu.cell c1; have i2 := hu.cell n0; have i3 := hu.cell n1; go_simp; (try exact rfl))))
  refine wpQuiet_nil ?_
  refine plan_call rfl rfl (fun K hK => ?_)
  go_simp
  go_at_call 7
  refine (HTB.out _ hbd).mono ?_
  rintro e wt10 ⟨y, z, rfl, bt, hy, _⟩
  refine ⟨_, rfl, hK _ _ ⟨bt, ?_⟩⟩
  have HYT : Hid (TabsV wt10 y ts' ∧ DataV wt10 z ds') := hy
  have hgt := ch_trans hgd bt
  clear hK K hy c0 c1 n0 n1
  refine plan_on rfl ?_
  refine wpQuiet_nil ?_
  refine plan_call rfl rfl (fun K hK => ?_)
  go_simp
  go_at_call 10
  refine (eqDb_same _ _ _ _ ts' ds' _ (HXB9.out.1.on hgt) (HXB9.out.2.on hgt) HYT.out.1 HYT.out.2).mono ?_
  rintro e we10 ⟨rfl, be⟩
  refine ⟨_, rfl, hK _ _ ⟨be, ?_⟩⟩
  have hge10 := ch_trans hgt be
  clear hK K hgt be hgd hbd bt HYT
  refine plan_end (by simp only [pick, List.getElem?_toArray, List.getElem?_cons_succ, List.getElem?_cons_zero]; rfl) ?_
  repeat (go_big_quiet_step ((intro hu; go_simp; (try exact rfl))))
  refine wpQuiet_nil ?_
  have h9 := ch_trans h8 hge10
  have k11 := ch_trans k8 h9
  have HNa := HN8.on h9
  have HOa := HO8.on h9
  have HSHa : Hid ((TabsS S0 we10 (.slice a6 ts.length p6) ∧ DataS S0 we10 (.slice b6' ds.length q6)) ∧ (TabsS S1 we10 (.slice a7 ts'.length p7) ∧ DataS S1 we10 (.slice b7' ds'.length q7))) := ⟨shape_on h9 HSH8.out.1, shape_on h9 HSH8.out.2⟩
  have HGa : Hid (Got we10 (n7 + 1) 9 1 (.slice ha hn hc) (ns1.map strX)) := HG8.out.on h9
  have hsa : n7 + 1 ≤ we10.heap.size := Nat.le_trans hs8 h9.size
  clear h8 h9 hge10 k10 hb10 HMz HOz HXB9 HN8 HO8 HSH8 HG8 k8 hs8 HXA8 HXB8
  obtain ⟨n0, n1⟩ := HNa.two
  obtain ⟨o0, o1⟩ := HOa.two
  go_wp2_with fail
  refine (markDb_bound S0 _ _ 1 _ HSHa.out.1.1 HSHa.out.1.2 (fun c hc => by have := (HSD0.out c hc).2; omega) (by omega)).mono ?_
  rintro e w11 ⟨K1, rfl, hK1, hM⟩
  have hns7 : ¬ S0 n7 := fun h => by have := (HSD0.out _ h).2; omega
  have o0 := hM.turns.cell (p := ⟨n7, 0, none⟩) hns7 o0
  have o1 := hM.turns.cell (p := ⟨n7, 1, none⟩) hns7 o1
  have HSHb : Hid (TabsS S1 w11 (.slice a7 ts'.length p7) ∧ DataS S1 w11 (.slice b7' ds'.length q7)) := ⟨TabsS.good.holds S1 _ _ _ (fun c h1 hc => hM.turns.block c hc fun h0 => by have := (HSD0.out _ h0).2; have := (HSD1.out _ h1).1; omega) HSHa.out.2.1, DataS.good.holds S1 _ _ _ (fun c h1 hc => hM.turns.block c hc fun h0 => by have := (HSD0.out _ h0).2; have := (HSD1.out _ h1).1; omega) HSHa.out.2.2⟩
  have k12 : Below w5.heap.size w5 w11 := k11.trans (hM.turns.toBelow (fun c hc => (HSD0.out c hc).1) (by omega))
  have HGb : Hid (Got w11 (n7 + 1) 9 1 (.slice ha hn hc) (ns1.map strX)) := HGa.out.turns hM.turns fun c hc => by have := (HSD0.out _ hc).2; omega
  have hsb : n7 + 1 ≤ w11.heap.size := Nat.le_trans hsa hM.turns.size
  clear hM n0 n1 HSHa HGa hsa k11 HNa HOa hns7
  go_wp2_with fail
  refine (markDb_bound S1 _ _ K1 _ HSHb.out.1 HSHb.out.2 (fun c hc => by have := (HSD1.out c hc).2; omega) (by omega)).mono ?_
  rintro e w12 ⟨K2, rfl, hK2, hM⟩
  have k13 : Below w5.heap.size w5 w12 := k12.trans (hM.turns.toBelow (fun c hc => by have := (HSD1.out c hc).1; omega) (by omega))
  have HGc : Hid (Got w12 (n7 + 1) 9 1 (.slice ha hn hc) (ns1.map strX)) := HGb.out.turns hM.turns fun c hc => by have := (HSD1.out _ hc).2; omega
  have hk0 : decide ((K2 : Int) < 0) = false := by simp
  clear hM HSHb HGb k12 hsb o0 o1 hK2 hK1
  go_wp2_with (go_at_call 9; refine (eqStringS_same _ _ ns1 _ HGc.out.strs (HG0.out.on k13)).mono ?_; rintro e w13 ⟨rfl, b13⟩)
  have k14 := ch_trans k13 b13
  have HGd : Hid (Got w13 (n7 + 1) 9 1 (.slice ha hn hc) (ns1.map strX)) := HGc.out.on b13
  clear b13 k13 HGc
  refine (markStringS_got HGd.out (by simp; omega) 1 (by omega)).mono ?_
  rintro e w14 ⟨rfl, hT, hh⟩
  have k15 : Below w5.heap.size w5 w14 := k14.trans (hT.toBelow (fun c hc => by have := HGd.out.own hc; omega) k14.size)
  have HH : Hid (HeldL w14 (.slice ha hn hc) 1 (markT 1) (ns1.map strX).length) := hh
  have HHS : Hid (∀ u : World, HeldL u (.slice ha hn hc) 1 (markT 1) (ns1.map strX).length → Calls Tryz.prog 13 #[.slice ha hn hc, .int .i64 1] u fun e w' => e = .returned (.int .i64 ((1 + (ns1.map strX).length : Nat) : Int)) ∧ Below u.heap.size u w') := fun u hu => heldStringS_held (k := 1) hu (by simp; omega) (by omega)
  clear hT hh k14 HGd
  generalize hM9 : 1 + (ns1.map strX).length = M at HHS ⊢
  have hm0 : decide ((M : Int) < 0) = false := by simp
  have hmm : ((M : Int) != M) = false := by simp
  have hme : ((M : Int) == M) = true := by simp
  go_wp2_with fail
  refine (HHS.out _ HH.out).mono ?_
  rintro e w15 ⟨rfl, b15⟩
  have k16 := ch_trans k15 b15
  have HH15 : Hid (HeldL w15 (.slice ha hn hc) 1 (markT 1) (ns1.map strX).length) := HH.out.on b15
  have HL15 := HL5.on k16
  have HM15 := HM5.on k16
  have hb15 := ch_trans hb5 k16
  clear b15 k15 HH
  obtain ⟨c0, c1⟩ := HL15.two
  obtain ⟨d0, d1⟩ := HM15.two
  go_wp2_with fail
  refine region_plan [([0, 2], 1), ([], 3), ([], 4)] [5] (by kernel_rfl) (by kernel_rfl) ?_
  have hgd := Grows.drawn w15
  generalize { w15 with drawn := w15.drawn + 1 } = wd16 at hgd ⊢
  have hbd : Below w.heap.size w wd16 := ch_trans hb15 hgd
  have c0 := cell_on c0 hgd
  have c1 := cell_on c1 hgd
  have d0 := cell_on d0 hgd
  have d1 := cell_on d1 hgd
  refine plan_on (by simp only [pick, List.getElem?_toArray, List.getElem?_cons_succ, List.getElem?_cons_zero]; rfl) ?_
  repeat (go_big_quiet_step ((intro hu; have n0 := hu.cell c0; have n1 := hu.cell c1; have n2 := hu.cell d0; have n3 := hu.cell d1; go_simp; (try exact rfl))))
  refine wpQuiet_nil ?_
  refine plan_call rfl rfl (fun K hK => ?_)
  go_simp
  go_at_call 7
  refine (HTA.out _ hbd).mono ?_
  rintro e w16 ⟨y, z, rfl, b16, hy, _⟩
  refine ⟨_, rfl, hK _ _ ⟨b16, ?_⟩⟩
  have HYA : Hid (TabsV w16 y ts ∧ DataV w16 z ds) := hy
  have hb16 := ch_trans hbd b16
  have g16 := ch_trans hgd b16
  clear hK K hy b16 hbd hgd c0 c1 d0 d1
  refine plan_on rfl ?_
  refine wpQuiet_nil ?_
  refine plan_call rfl rfl (fun K hK => ?_)
  go_simp
  go_at_call 7
  refine (HTB.out _ hb16).mono ?_
  rintro e w17 ⟨y', z', rfl, b17, hy, _⟩
  refine ⟨_, rfl, hK _ _ ⟨b17, ?_⟩⟩
  have HYB : Hid (TabsV w17 y' ts' ∧ DataV w17 z' ds') := hy
  have HYA4 : Hid (TabsV w17 y ts ∧ DataV w17 z ds) := ⟨HYA.out.1.on b17, HYA.out.2.on b17⟩
  have g17 := ch_trans g16 b17
  clear hK K hy b17 g16 hb16 HYA
  refine plan_on rfl ?_
  refine wpQuiet_nil ?_
  refine plan_call rfl rfl (fun K hK => ?_)
  go_simp
  go_at_call 8
  refine (diff_impl _ _ _ _ ts ts' ds ds' _ HYA4.out.1 HYA4.out.2 HYB.out.1 HYB.out.2 HF.out.1.1 HF.out.2.1).mono ?_
  rintro e w18 ⟨kv2, ns2, rfl, hq2, _, b18, hg2⟩
  obtain rfl : ns2 = ns1 := hq2.unique HQ.out
  obtain ⟨ja, jn, jc, rfl, hg2⟩ := hg2.lit2
  refine ⟨_, rfl, hK _ _ ⟨b18, ?_⟩⟩
  have HG18 : Hid (StrsV w18 (.slice ja jn jc) ns2) := hg2.strs
  have g18 := ch_trans g17 b18
  clear hK K hq2 b18 g17 hg2 HYA4 HYB
  refine plan_end (by simp only [pick, List.getElem?_toArray, List.getElem?_cons_succ, List.getElem?_cons_zero]; rfl) ?_
  repeat (go_big_quiet_step ((intro hu; go_simp; (try exact rfl))))
  refine wpQuiet_nil ?_
  go_wp2_with fail
  refine (eqStringS_same _ _ ns2 _ HG18.out (HG0.out.on (ch_trans k16 g18))).mono ?_
  rintro e w19 ⟨rfl, b19⟩
  have g19 := ch_trans g18 b19
  clear b19 g18 HG18
  go_wp2_with fail
  refine (HHS.out _ (HH15.out.on g19)).mono ?_
  rintro e w20 ⟨rfl, b20⟩
  have hb20 := ch_trans hb15 (ch_trans g19 b20)
  clear b20 g19
  go_wp2
  go_ret
  exact ⟨rfl, hb20⟩

theorem own : ownKnob Tryz.prog.godebug = none := by kernel_rfl
theorem laidOut : laidOutB Tryz.prog = true := by kernel_rfl

set_option maxRecDepth 100000 in
theorem lifted (os : Os) (started : os.Started) (H : Type) (enc : TypeId × Value → H) :
    ReturnsInHanded {} Tryz.checked os 3 .any (Rows.fnExactDiffSpec.pre6 enc Tryz.prog Tryz.f3 Rows.fnExactDiffRow.domain false) (Rows.fnExactDiffSpec.post enc Tryz.prog Tryz.f3 false true false false) := by
  refine returnsInHanded_of_change (C := Tryz.checked) own started (by kernel_rfl) Tryz.func3
    (ChangeSpec.witness6 (enc := enc) (C := Tryz.checked) false ⟨#[], #[.agg #[.slice none 0 0, .slice none 0 0], .agg #[.slice none 0 0, .slice none 0 0]], []⟩ 8 (by kernel_rfl) (by kernel_rfl) (by kernel_rfl) (by kernel_rfl)) ?_
  intro W base args ds gs before hval0 hW _ _
  have hval : ∀ (j : Nat) t v, Tryz.f3.params[j]? = some t → args[j]? = some v → Value.okWide Tryz.prog W .any base t v := hval0
  have hW' := hW
  obtain ⟨p, q, hA0, hV, rfl, _, _⟩ := hW
  have hA : DataW.TrodAll enc Tryz.prog W 0 (fun _ => true) true Tryz.f3.params.toList args.toList ds p := hA0
  rw [Tryz.params3] at hA hval
  obtain ⟨v0, v1, d0, d1, p0, p1, rfl, rfl, rfl, h0, h1⟩ := trodAll_two hA
  obtain ⟨rfl, rfl⟩ := trodVars_none hV
  have h0k := h0
  have h1k := h1
  obtain ⟨cs, rfl, hsz⟩ := okWide_struct Tryz.underlying27 (hval 0 27 v0 rfl rfl)
  obtain ⟨k, hk⟩ := h0
  obtain ⟨v, u, t, d, hc, hx, hd, hf, hg⟩ := open_db hk
  have hc' : cs = #[v, u] := by apply Array.toList_inj.1; simpa [Value.cells] using hc
  subst hc'
  obtain ⟨cs1, rfl, hsz1⟩ := okWide_struct Tryz.underlying27 (hval 1 27 v1 rfl rfl)
  obtain ⟨k1, hk1⟩ := h1
  obtain ⟨v1, u1, t1, d1', hc1, hx1, hd1, hf1, hg1⟩ := open_db hk1
  have hc1' : cs1 = #[v1, u1] := by apply Array.toList_inj.1; simpa [Value.cells] using hc1
  subst hc1'
  clear hA0 hval0
  simp only [List.append_nil] at hW'
  have hlt : ∀ x ∈ p0, x.block < W.heap.size := fun x hx => by simpa using hW'.lt x (by simp [hx])
  have hlt1 : ∀ x ∈ p1, x.block < W.heap.size := fun x hx => by simpa using hW'.lt x (by simp [hx])
  refine (walk v u v1 u1 t t1 d d1' W hx hd hx1 hd1 hf hg hf1 hg1).mono fun e W' ⟨he, bel⟩ => ?_
  subst he
  exact ⟨_, rfl, _, _, _, [], _, [], hW', trodAll_mk1 (shut_bool Tryz.underlying4 _), trodAll_mk2 (Below.trod laidOut (by kernel_rfl) (of_decide_eq_true (by kernel_rfl)) h0k bel hlt) (Below.trod laidOut (by kernel_rfl) (of_decide_eq_true (by kernel_rfl)) h1k bel hlt1), rfl, bel.frame _, fun h => by cases h⟩

theorem over : Rows.FnExactDiffSaid :=
  OpenClaim.holds_of_wide 3 Tryz.f3 rfl rfl rfl rfl rfl rfl rfl ⟨rfl, rfl, rfl, rfl, rfl⟩ rfl rfl rfl rfl rfl (by kernel_rfl) Tryz.func3 (by kernel_rfl)
    (of_decide_eq_true (by kernel_rfl)) (by unfold Func.isWrapper; first | (rw [if_pos (by decide +kernel)]; kernel_rfl) | (rw [if_neg (by decide +kernel)]; exact ⟨rfl, rfl⟩))
    (fun os started H enc _ => lifted os started H enc)
end Go.Proofs.YtihilcffmdjhhalGreat.lawDiff
namespace Go.Proofs.YtihilcffmdjhhalGreat
theorem fnExactDiff_holds : Rows.FnExactDiffSaid := lawDiff.over
#print axioms fnExactDiff_holds
end Go.Proofs.YtihilcffmdjhhalGreat
