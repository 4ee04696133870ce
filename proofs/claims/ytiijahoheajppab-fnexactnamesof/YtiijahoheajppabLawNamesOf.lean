/- For every store and every name the landed NamesOf answers as the given one does, leaves the store as it was, and its answers own their memory: 'FnExactNamesOf' returns true at every argument, with no condition; its arguments read afterwards as they read before. -/
import Derived.Test.YtiijahoheajppabNn
import Derived.Test.YtiijahoheajppabWm
import Derived.Test.YtiijahoheajppabMs
import Derived.Test.YtiijahoheajppabTt
import Derived.Test.YtiijahoheajppabOpenDb
namespace Go.Proofs.Ytiijahoheajppab.lawNamesOf
open Go.ChangeShapes Go.WideShapes Go.ChangeAt Go.RowKit
open Go.ChangeMaps (open_string shut_string)

set_option maxRecDepth 100000 in
set_option maxHeartbeats 2000000 in
theorem walk (cv dv : Value) (t : List Tc) (d : List (List (List Vc))) (s : ByteArray) (w : World) (hx : TabsV w cv t) (hd : DataV w dv d) (hf : fits t) (hg : dfits d) (hs : s.size ≤ maxLen) :
    Calls Try.prog 3 #[.agg #[cv, dv], .string s] w fun e w' => e = .returned (.bool true) ∧ Below w.heap.size w w' := by
  obtain ⟨a, cap, rfl, _, _⟩ := hx.lit
  obtain ⟨b, cap', rfl, _, _, _⟩ := hd.lit
  unfold maxLen at hs
  have HX : Hid (TabsV w (.slice a t.length cap) t ∧ DataV w (.slice b d.length cap') d) := ⟨hx, hd⟩
  have HF : Hid (fits t ∧ dfits d) := ⟨hf, hg⟩
  have HL := Loc.new w #[.slice a t.length cap, .slice b d.length cap'] 27
  have hbv : Below w.heap.size w (w.alloc (.cells #[.slice a t.length cap, .slice b d.length cap'] 27)) := (by repeat (first | with_reducible exact Below.refl _ _ | with_reducible assumption | with_reducible refine ch_alloc ?_ _ | with_reducible refine Below.drew ?_ | with_reducible refine below_draws _ ?_ | (with_reducible refine Below.setCell ?_ ?_ _; rotate_left; focus (first | with_reducible exact Nat.le_refl _ | (simp; done) | (simp; omega) | (simp at *; omega))) | with_reducible refine ch_trans ?_ (by with_reducible assumption)))
  clear hx hf hd hg
  by_cases hs20 : 1048576 < s.size
  · have hs20' : decide ((1048576 : Int) < s.size) = true := by simp; omega
    go_enter Try.func3, Try.ntmps3
    go_wp2
    go_ret
    exact ⟨rfl, hbv⟩
  have hs20' : decide ((1048576 : Int) < s.size) = false := by simp; omega
  clear hs20
  go_enter Try.func3, Try.ntmps3
  go_wp2_with fail
  generalize w.alloc (.cells #[.slice a t.length cap, .slice b d.length cap'] 27) = wv at HL hbv ⊢
  refine (szDb_any _ _ t d _ _ (HX.out.1.on hbv) (HX.out.2.on hbv) HF.out.1 HF.out.2 (by omega) (by omega)).mono ?_
  rintro e w1 ⟨r, rfl, b1, hr⟩
  have HL1 := HL.on b1
  have hb1 := ch_trans hbv b1
  clear b1 hbv HL
  obtain ⟨c0, c1⟩ := HL1.two
  rcases hr with rfl | ⟨r0, r1, few, few'⟩
  · go_wp2
    go_ret
    exact ⟨rfl, hb1⟩
  obtain ⟨cs, ks, hrs, hcl, hkl⟩ := names_is t d s
  have HRS : Hid (isNames t d s cs ks) := hrs
  have HTD : Hid (∀ u : World, Below w.heap.size w u → Calls Try.prog 7 #[.agg #[.slice a t.length cap, .slice b d.length cap']] u fun e w' => ∃ y z, e = .returned (.agg #[y, z]) ∧ Below u.heap.size u w' ∧ (TabsV w' y t ∧ DataV w' z d) ∧ New TabsS u.heap.size w' y ∧ New DataS u.heap.size w' z) := fun u hu => (toDb_full _ _ t d u (HX.out.1.on hu) (HX.out.2.on hu) few few').mono fun e w' ⟨y, z, h1, h2, h3, h4⟩ => ⟨y, z, h1, h2, h3.out, h4⟩
  clear few few' hrs HX
  go_wp2_with fail
  refine (HTD.out _ hb1).mono ?_
  rintro e w2 ⟨y, z, rfl, b2, hy, _⟩
  have HY2 : Hid (TabsV w2 y t ∧ DataV w2 z d) := hy
  have hb2 := ch_trans hb1 b2
  have HL2 := HL1.on b2
  clear hy b2 hb1 HL1 c0 c1
  go_wp2_with fail
  refine (namesOf_spec _ _ t d s _ HY2.out.1 HY2.out.2 HF.out.1 cs ks HRS.out).mono ?_
  rintro e w3 ⟨kv0, kw0, rfl, b3, hg0, hh0⟩
  obtain ⟨a0, e0, rfl, _⟩ := hg0.lit
  obtain ⟨f0, g0, rfl, _⟩ := hh0.lit
  have HG0 : Hid (StrsV w3 (.slice a0 cs.length e0) cs ∧ StrsV w3 (.slice f0 ks.length g0) ks) := ⟨hg0, hh0⟩
  have hb3 := ch_trans hb2 b3
  have HL3 := HL2.on b3
  clear hg0 hh0 b3 hb2 HL2 HY2
  obtain ⟨c0, c1⟩ := HL3.two
  go_wp2_with fail
  refine (HTD.out _ hb3).mono ?_
  rintro e w4 ⟨y, z, rfl, b4, hy, hnt, hnd⟩
  obtain ⟨a4, p4, rfl, _, _⟩ := hy.1.lit
  obtain ⟨a5, p5, rfl, _, _, _⟩ := hy.2.lit
  have HX4 : Hid (TabsV w4 (.slice a4 t.length p4) t ∧ DataV w4 (.slice a5 d.length p5) d) := hy
  have HN4 := Loc.new w4 #[.slice a4 t.length p4, .slice a5 d.length p5] 37
  obtain ⟨S, hSd⟩ : ∃ S : Nat → Prop, S = fun c => w3.heap.size ≤ c ∧ c < w4.heap.size := ⟨_, rfl⟩
  have HSH : Hid (TabsS S w4 (.slice a4 t.length p4) ∧ DataS S w4 (.slice a5 d.length p5)) := by subst hSd; exact ⟨hnt, hnd⟩
  have HSD : Hid (∀ c, S c → w3.heap.size ≤ c ∧ c < w4.heap.size) := by subst hSd; exact fun c h => h
  have hs34 : w3.heap.size ≤ w4.heap.size := b4.size
  have hv4 : Below w4.heap.size w4 (w4.alloc (.cells #[.slice a4 t.length p4, .slice a5 d.length p5] 37)) := (by repeat (first | with_reducible exact Below.refl _ _ | with_reducible assumption | with_reducible refine ch_alloc ?_ _ | with_reducible refine Below.drew ?_ | with_reducible refine below_draws _ ?_ | (with_reducible refine Below.setCell ?_ ?_ _; rotate_left; focus (first | with_reducible exact Nat.le_refl _ | (simp; done) | (simp; omega) | (simp at *; omega))) | with_reducible refine ch_trans ?_ (by with_reducible assumption)))
  have hz4 : (w4.alloc (.cells #[.slice a4 t.length p4, .slice a5 d.length p5] 37)).heap.size = w4.heap.size + 1 := by simp
  have hb34 := ch_trans b4 hv4
  clear hy hnt hnd hSd c0 c1 b4
  go_wp2_with fail
  generalize w4.alloc (.cells #[.slice a4 t.length p4, .slice a5 d.length p5] 37) = u4 at HN4 hv4 hz4 hb34 ⊢
  refine (namesOf_impl _ _ t d s _ (HX4.out.1.on hv4) (HX4.out.2.on hv4) HF.out.1 cs ks HRS.out).mono ?_
  rintro e w5 ⟨kv1, kw1, rfl, b5, hg1⟩
  obtain ⟨a1, n1, e1, f1, m1, g1, rfl, rfl, hg1⟩ := hg1.lit
  rw [hz4] at hg1
  have HG1 : Hid (Two w5 (w4.heap.size + 1) (.slice a1 n1 e1) (.slice f1 m1 g1) cs ks) := hg1
  have HN5 := HN4.on b5
  have hb35 := ch_trans hb34 b5
  have hv5 := ch_trans hv4 b5
  have hz5 : w4.heap.size + 1 ≤ w5.heap.size := by rw [← hz4]; exact b5.size
  clear hg1 b5 hb34 hv4 HN4 hz4
  go_wp2_with fail
  refine (eqStringS_same _ _ cs _ HG1.out.strs.1 (HG0.out.1.on hb35)).mono ?_
  rintro e wx ⟨rfl, bx⟩
  go_wp2_with fail
  refine (eqStringS_same _ _ ks _ (HG1.out.on bx).strs.2 (HG0.out.2.on (ch_trans hb35 bx))).mono ?_
  rintro e w6 ⟨rfl, by6⟩
  have b6 := ch_trans bx by6
  clear bx by6
  have HN6 := HN5.on b6
  have HL6 := HL3.on (ch_trans hb35 b6)
  have hb36 := ch_trans hb35 b6
  have hv6 := ch_trans hv5 b6
  have HG6 : Hid (Two w6 (w4.heap.size + 1) (.slice a1 n1 e1) (.slice f1 m1 g1) cs ks) := HG1.out.on b6
  have hz6 : w4.heap.size + 1 ≤ w6.heap.size := Nat.le_trans hz5 b6.size
  have hb6 := ch_trans hb3 hb36
  clear b6 HN5 hb35 hv5 HG1 hz5
  obtain ⟨c0, c1⟩ := HL6.two
  obtain ⟨i0, i1⟩ := HN6.two
  go_wp2_with fail
  refine region_plan [([0, 1], 2), ([], 3)] [4] (by kernel_rfl) (by kernel_rfl) ?_
  have hgd := Grows.drawn w6
  generalize { w6 with drawn := w6.drawn + 1 } = wd at hgd ⊢
  have hbd := ch_trans hb6 hgd
  have c0 := cell_on c0 hgd
  have c1 := cell_on c1 hgd
  have i0 := cell_on i0 hgd
  have i1 := cell_on i1 hgd
  refine plan_on (by simp only [pick, List.getElem?_toArray, List.getElem?_cons_succ, List.getElem?_cons_zero]; rfl) ?_
  repeat (go_big_quiet_step ((intro hu; have j0 := hu.cell c0; have j1 := hu.cell c1; have j2 := hu.cell i0; have j3 := hu.cell i1; go_simp; (try exact rfl))))
  refine wpQuiet_nil ?_
  refine plan_call rfl rfl (fun K hK => ?_)
  go_simp
  go_at_call 7
  refine (HTD.out _ hbd).mono ?_
  rintro e w7 ⟨y, z, rfl, b7, hy, _⟩
  refine ⟨_, rfl, hK _ _ ⟨b7, ?_⟩⟩
  have HYT : Hid (TabsV w7 y t ∧ DataV w7 z d) := hy
  have hg67 := ch_trans hgd b7
  clear hK K hy c0 c1 i0 i1
  refine plan_on rfl ?_
  refine wpQuiet_nil ?_
  refine plan_call rfl rfl (fun K hK => ?_)
  go_simp
  go_at_call 10
  refine (eqDb_same _ _ _ _ t d _ (HX4.out.1.on (ch_trans hv6 hg67)) (HX4.out.2.on (ch_trans hv6 hg67)) HYT.out.1 HYT.out.2).mono ?_
  rintro e w9 ⟨rfl, b9⟩
  refine ⟨_, rfl, hK _ _ ⟨b9, ?_⟩⟩
  have h69 := ch_trans hg67 b9
  have HN9 := HN6.on h69
  have hb39 := ch_trans hb36 h69
  have hv9 := ch_trans hv6 h69
  have HG9 : Hid (Two w9 (w4.heap.size + 1) (.slice a1 n1 e1) (.slice f1 m1 g1) cs ks) := HG6.out.on h69
  have hz9 : w4.heap.size + 1 ≤ w9.heap.size := Nat.le_trans hz6 h69.size
  have HSH9 : Hid (TabsS S w9 (.slice a4 t.length p4) ∧ DataS S w9 (.slice a5 d.length p5)) := ⟨TabsS.good.holds S _ _ _ (fun c _ hc => hv9.block c hc) HSH.out.1, DataS.good.holds S _ _ _ (fun c _ hc => hv9.block c hc) HSH.out.2⟩
  clear hK K b9 hg67 hgd hbd b7 HYT h69 HN6 hb36 hv6 HG6 hz6 hb6 HSH HX4 HL6
  refine plan_end (by simp only [pick, List.getElem?_toArray, List.getElem?_cons_succ, List.getElem?_cons_zero]; rfl) ?_
  repeat (go_big_quiet_step ((intro hu; go_simp; (try exact rfl))))
  refine wpQuiet_nil ?_
  obtain ⟨i0, i1⟩ := HN9.two
  go_wp2_with fail
  refine (markDb_shape S _ _ 1 _ HSH9.out.1 HSH9.out.2 (fun c hc => by have := (HSD.out c hc).2; omega) (by omega)).mono ?_
  rintro e w10 ⟨K, rfl, hM⟩
  have hb310 : Below w3.heap.size w3 w10 := hb39.trans (hM.turns.toBelow (fun c hc => (HSD.out c hc).1) (by omega))
  have HG10 : Hid (Two w10 (w4.heap.size + 1) (.slice a1 n1 e1) (.slice f1 m1 g1) cs ks) := HG9.out.turned hM.turns fun c hc => by have := (HSD.out c hc).2; omega
  have hz10 : w4.heap.size + 1 ≤ w10.heap.size := Nat.le_trans hz9 hM.turns.size
  have hk0 : decide ((K : Int) < 0) = false := by simp
  clear hM HSH9 HG9 hz9 hb39 hv9 i0 i1 HN9
  go_wp2_with fail
  refine (eqStringS_same _ _ cs _ HG10.out.strs.1 (HG0.out.1.on hb310)).mono ?_
  rintro e wx ⟨rfl, bx⟩
  have hb3x := ch_trans hb310 bx
  have HGx : Hid (Two wx (w4.heap.size + 1) (.slice a1 n1 e1) (.slice f1 m1 g1) cs ks) := HG10.out.on bx
  have hzx : w4.heap.size + 1 ≤ wx.heap.size := Nat.le_trans hz10 bx.size
  clear bx hb310 HG10 hz10
  go_wp2_with fail
  refine (eqStringS_same _ _ ks _ HGx.out.strs.2 (HG0.out.2.on hb3x)).mono ?_
  rintro e w11 ⟨rfl, b11⟩
  have hb311 := ch_trans hb3x b11
  obtain ⟨B1, hB1, hq0, hq1, hq2⟩ := HGx.out.on b11
  have HQ0 : Hid (Got w11 (w4.heap.size + 1) 9 1 (.slice a1 n1 e1) (cs.map strX)) := hq0
  have HQ1 : Hid (Got w11 B1 9 1 (.slice f1 m1 g1) (ks.map strX)) := hq2
  have HQB : Hid ((∀ c, (Value.slice a1 n1 e1).ownBlock = some c → c < B1) ∧ w4.heap.size + 1 ≤ B1) := ⟨hq1, hB1⟩
  have hz11 : w4.heap.size + 1 ≤ w11.heap.size := Nat.le_trans hzx b11.size
  clear b11 hb3x HGx hzx hq0 hq1 hq2 hB1
  go_wp2_with fail
  refine (markStringS_got HQ0.out (by simp; omega) 1 (by omega)).mono ?_
  rintro e w12 ⟨rfl, hT, hh⟩
  rw [List.length_map] at hh ⊢
  have HH0 : Hid (HeldL w12 (.slice a1 n1 e1) 1 (markT 1) cs.length) := hh
  have hb312 : Below w3.heap.size w3 w12 := hb311.trans (hT.toBelow (fun c hc => by have := HQ0.out.own hc; omega) (by have := hb311.size; omega))
  have HQ12 : Hid (Got w12 B1 9 1 (.slice f1 m1 g1) (ks.map strX)) := HQ1.out.turned hT fun c hc hs => by have h1 := HQ1.out.own hc; have h2 := HQB.out.1 c hs; omega
  have hz12 : w4.heap.size + 1 ≤ w12.heap.size := Nat.le_trans hz11 hT.size
  clear hT hh hb311 HQ0 HQ1 hz11
  obtain ⟨M1, hM1⟩ : ∃ M1 : Nat, M1 = 1 + cs.length := ⟨_, rfl⟩
  rw [← hM1]
  have hM1' : M1 ≤ 2000 := by omega
  have HM1 : Hid (M1 = 1 + cs.length) := hM1
  clear hM1
  go_wp2_with fail
  refine (markStringS_got HQ12.out (by simp; omega) M1 (by omega)).mono ?_
  rintro e w13 ⟨rfl, hT, hh⟩
  rw [List.length_map] at hh ⊢
  have HH1 : Hid (HeldL w13 (.slice f1 m1 g1) 1 (markT M1) ks.length) := hh
  have HH0 : Hid (HeldL w13 (.slice a1 n1 e1) 1 (markT 1) cs.length) := HH0.out.turned hT fun c hc hs => by have h1 := HQ12.out.own hs; have h2 := HQB.out.1 c hc; omega
  have hb313 : Below w3.heap.size w3 w13 := hb312.trans (hT.toBelow (fun c hc => by have h1 := HQ12.out.own hc; have := HQB.out.2; omega) (by have := hb312.size; omega))
  clear hT hh hb312 HQ12 hz12 HQB
  obtain ⟨M2, hM2⟩ : ∃ M2 : Nat, M2 = M1 + ks.length := ⟨_, rfl⟩
  rw [← hM2]
  have HHS0 : Hid (∀ u : World, HeldL u (.slice a1 n1 e1) 1 (markT 1) cs.length → Calls Try.prog 13 #[.slice a1 n1 e1, .int .i64 1] u fun e w' => e = .returned (.int .i64 (M1 : Int)) ∧ Below u.heap.size u w') := fun u hu => by rw [HM1.out]; exact heldStringS_held (k := 1) hu (by omega) (by omega)
  have HHS1 : Hid (∀ u : World, HeldL u (.slice f1 m1 g1) 1 (markT M1) ks.length → Calls Try.prog 13 #[.slice f1 m1 g1, .int .i64 (M1 : Int)] u fun e w' => e = .returned (.int .i64 (M2 : Int)) ∧ Below u.heap.size u w') := fun u hu => by rw [hM2]; exact heldStringS_held (k := M1) hu (by omega) (by omega)
  have hm10 : decide ((M1 : Int) < 0) = false := by simp
  have hm20 : decide ((M2 : Int) < 0) = false := by simp
  have hmm : ((M2 : Int) != M2) = false := by simp
  clear hM2 hM1' HM1
  go_wp2_with fail
  refine (HHS0.out _ HH0.out).mono ?_
  rintro e w14 ⟨rfl, b14⟩
  have HH1' : Hid (HeldL w14 (.slice f1 m1 g1) 1 (markT M1) ks.length) := HH1.out.on b14
  go_wp2_with fail
  refine (HHS1.out _ HH1'.out).mono ?_
  rintro e w15 ⟨rfl, b15⟩
  have h1315 := ch_trans b14 b15
  have hb315 := ch_trans hb313 h1315
  have HL15 := HL3.on hb315
  have hb15 := ch_trans hb3 hb315
  clear b14 b15 HH1'
  obtain ⟨c0, c1⟩ := HL15.two
  go_wp2_with fail
  refine (HTD.out _ hb15).mono ?_
  rintro e w16 ⟨y, z, rfl, b16, hy, _⟩
  have HY16 : Hid (TabsV w16 y t ∧ DataV w16 z d) := hy
  clear hy c0 c1
  go_wp2_with fail
  refine (namesOf_impl _ _ t d s _ HY16.out.1 HY16.out.2 HF.out.1 cs ks HRS.out).mono ?_
  rintro e w17 ⟨kv2, kw2, rfl, b17, hg2⟩
  obtain ⟨a2, n2, e2, f2, m2, g2, rfl, rfl, hg2⟩ := hg2.lit
  have HG2 : Hid (StrsV w17 (.slice a2 n2 e2) cs ∧ StrsV w17 (.slice f2 m2 g2) ks) := hg2.strs
  have h1517 := ch_trans b16 b17
  clear hg2 b16 b17 HY16
  go_wp2_with fail
  refine (eqStringS_same _ _ cs _ HG2.out.1 (HG0.out.1.on (ch_trans hb315 h1517))).mono ?_
  rintro e w18 ⟨rfl, b18⟩
  have h1518 := ch_trans h1517 b18
  go_wp2_with fail
  refine (eqStringS_same _ _ ks _ (HG2.out.2.on b18) (HG0.out.2.on (ch_trans hb315 h1518))).mono ?_
  rintro e w19 ⟨rfl, b19⟩
  have h1319 := ch_trans h1315 (ch_trans h1518 b19)
  clear b18 b19 h1518 h1517 HG2 h1315
  have HH019 : Hid (HeldL w19 (.slice a1 n1 e1) 1 (markT 1) cs.length) := HH0.out.on h1319
  go_wp2_with fail
  refine (HHS0.out _ HH019.out).mono ?_
  rintro e w20 ⟨rfl, b20⟩
  have HH120 : Hid (HeldL w20 (.slice f1 m1 g1) 1 (markT M1) ks.length) := HH1.out.on (ch_trans h1319 b20)
  go_wp2_with fail
  refine (HHS1.out _ HH120.out).mono ?_
  rintro e w21 ⟨rfl, b21⟩
  have hb21 := ch_trans hb3 (ch_trans hb313 (ch_trans (ch_trans h1319 b20) b21))
  clear b20 b21 h1319
  go_wp2
  go_ret
  exact ⟨rfl, hb21⟩

theorem own : ownKnob Try.prog.godebug = none := by kernel_rfl
theorem laidOut : laidOutB Try.prog = true := by kernel_rfl

set_option maxRecDepth 100000 in
theorem lifted (os : Os) (started : os.Started) (H : Type) (enc : TypeId × Value → H) :
    ReturnsInHanded {} Try.checked os 3 .any (Rows.fnExactNamesOfSpec.pre6 enc Try.prog Try.f3 Rows.fnExactNamesOfRow.domain false) (Rows.fnExactNamesOfSpec.post enc Try.prog Try.f3 false true false false) := by
  refine returnsInHanded_of_change (C := Try.checked) own started (by kernel_rfl) Try.func3
    (ChangeSpec.witness6 (enc := enc) (C := Try.checked) false ⟨#[], #[.agg #[.slice none 0 0, .slice none 0 0], .string ByteArray.empty], []⟩ 8 (by kernel_rfl) (by kernel_rfl) (by kernel_rfl) (by kernel_rfl)) ?_
  intro W base args ds gs before hval0 hW _ _
  have hval : ∀ (j : Nat) t v, Try.f3.params[j]? = some t → args[j]? = some v → Value.okWide Try.prog W .any base t v := hval0
  have hW' := hW
  obtain ⟨p, q, hA0, hV, rfl, _, _⟩ := hW
  have hA : DataW.TrodAll enc Try.prog W 0 (fun _ => true) true Try.f3.params.toList args.toList ds p := hA0
  rw [Try.params3] at hA hval
  obtain ⟨v0, v1, d0, d1, p0, p1, rfl, rfl, rfl, h0, h1⟩ := trodAll_two hA
  obtain ⟨rfl, rfl⟩ := trodVars_none hV
  have h0k := h0
  have h1k := h1
  obtain ⟨cs, rfl, hsz⟩ := okWide_struct Try.underlying27 (hval 0 27 v0 rfl rfl)
  obtain ⟨k, hk⟩ := h0
  obtain ⟨v, u, t, d, hc, hx, hd, hf, hg⟩ := open_db hk
  have hc' : cs = #[v, u] := by apply Array.toList_inj.1; simpa [Value.cells] using hc
  subst hc'
  obtain ⟨s, rfl, rfl, rfl, hs⟩ := open_string Try.underlying9 (hval 1 9 v1 rfl rfl) h1
  clear hA0 hval0
  simp only [List.append_nil] at hW'
  have hlt : ∀ x ∈ p0, x.block < W.heap.size := fun x hx => by simpa using hW'.lt x (by simpa using hx)
  refine (walk v u t d s W hx hd hf hg hs).mono fun e W' ⟨he, bel⟩ => ?_
  subst he
  exact ⟨_, rfl, _, _, _, [], _, [], hW', trodAll_mk1 (shut_bool Try.underlying4 _), trodAll_mk2 (Below.trod laidOut (by kernel_rfl) (of_decide_eq_true (by kernel_rfl)) h0k bel hlt) (shut_string Try.underlying9 hs), rfl, bel.frame _, fun h => by cases h⟩

theorem over : Rows.FnExactNamesOfSaid :=
  OpenClaim.holds_of_wide 3 Try.f3 rfl rfl rfl rfl rfl rfl rfl ⟨rfl, rfl, rfl, rfl, rfl⟩ rfl rfl rfl rfl rfl (by kernel_rfl) Try.func3 (by kernel_rfl)
    (of_decide_eq_true (by kernel_rfl)) (by unfold Func.isWrapper; first | (rw [if_pos (by decide +kernel)]; kernel_rfl) | (rw [if_neg (by decide +kernel)]; exact ⟨rfl, rfl⟩))
    (fun os started H enc _ => lifted os started H enc)
end Go.Proofs.Ytiijahoheajppab.lawNamesOf
namespace Go.Proofs.Ytiijahoheajppab
theorem fnExactNamesOf_holds : Rows.FnExactNamesOfSaid := lawNamesOf.over
#print axioms fnExactNamesOf_holds
end Go.Proofs.Ytiijahoheajppab
