/- For all names that come, all names of keys and every table the landed Drift answers as the given one does, and leaves them as they were: 'FnExactDrift' returns true at every argument, with no condition; its arguments read afterwards as they read before. -/
import Derived.Test.YtiijahoheajppaaDs
import Derived.Test.YtiijahoheajppaaOpenT
import Derived.Test.YtiijahoheajppaaOrd
namespace Go.Proofs.Ytiijahoheajppaa.lawDrift
open Go.ChangeShapes Go.WideShapes Go.ChangeAt Go.RowKit

set_option maxRecDepth 100000 in
set_option maxHeartbeats 2000000 in
theorem walk (x : Array Value) (l y : Value) (cols keys : List ByteArray) (t : Tc) (w : World) (hl : StrsV w l cols) (hy : StrsV w y keys) (hx : TabV w x t) (hfl : ∀ s ∈ cols, s.size ≤ maxLen) (hft : ∀ s ∈ keys, s.size ≤ maxLen) (hfs : t.fit) :
    Calls Try.prog 3 #[l, y, .agg x] w fun e w' => e = .returned (.bool true) ∧ Below w.heap.size w w' := by
  obtain ⟨a, p, o, z, rfl, hx, _, _⟩ := hx.lit
  obtain ⟨bl, ql, rfl, hql, hqm, hlr⟩ := hl
  obtain ⟨b, q, rfl, hq, hqm', hyr⟩ := hy
  have HX : Hid (TabV w #[.string t.name, .slice a t.cols.length p, .slice o t.keys.length z] t) := hx
  have HR : Hid (StrsV w (.slice bl cols.length ql) cols) := ⟨bl, ql, rfl, hql, hqm, hlr⟩
  have HY : Hid (StrsV w (.slice b keys.length q) keys) := ⟨b, q, rfl, hq, hqm', hyr⟩
  have HF : Hid (t.fit ∧ (∀ s ∈ cols, s.size ≤ maxLen) ∧ ∀ s ∈ keys, s.size ≤ maxLen) := ⟨hfs, hfl, hft⟩
  have HL := Loc.new w #[.string t.name, .slice a t.cols.length p, .slice o t.keys.length z] 25
  have hbv : Below w.heap.size w (w.alloc (.cells #[.string t.name, .slice a t.cols.length p, .slice o t.keys.length z] 25)) := (by repeat (first | with_reducible exact Below.refl _ _ | with_reducible assumption | with_reducible refine ch_alloc ?_ _ | with_reducible refine Below.drew ?_ | with_reducible refine below_draws _ ?_ | (with_reducible refine Below.setCell ?_ ?_ _; rotate_left; focus (first | with_reducible exact Nat.le_refl _ | (simp; done) | (simp; omega) | (simp at *; omega))) | with_reducible refine ch_trans ?_ (by with_reducible assumption)))
  clear hx hlr hyr hfs hft hfl hqm hqm' hql hq
  go_enter Try.func3, Try.ntmps3
  go_wp2_with fail
  refine (szStringS_any _ cols _ _ (HR.out.on hbv) HF.out.2.1 (by omega) (by omega)).mono ?_
  rintro e w1 ⟨r, rfl, b1, hr⟩
  have HL1 := HL.on b1
  have hb1 := ch_trans hbv b1
  clear b1 hbv HL
  obtain ⟨c0, c1, c2⟩ := HL1.three
  rcases hr with rfl | ⟨r0, r1, fewc⟩
  · go_wp2
    go_ret
    exact ⟨rfl, hb1⟩
  go_wp2_with fail
  refine (szStringS_any _ keys r _ (HY.out.on hb1) HF.out.2.2 (by omega) (by omega)).mono ?_
  rintro e w1' ⟨s, rfl, b1, hr⟩
  have HL1' := HL1.on b1
  have hb1' := ch_trans hb1 b1
  clear b1 hb1 HL1 c0 c1 c2
  obtain ⟨c0, c1, c2⟩ := HL1'.three
  rcases hr with rfl | ⟨s0, s1, fewk⟩
  · go_wp2
    go_ret
    exact ⟨rfl, hb1'⟩
  go_wp2_with fail
  refine (szTable_any _ t s _ (HX.out.on hb1') HF.out.1 (by omega) (by omega)).mono ?_
  rintro e w2 ⟨r', rfl, b2, hr'⟩
  have HL2 := HL1'.on b2
  have hb2 := ch_trans hb1' b2
  clear c0 c1 c2 b2 hb1' HL1'
  obtain ⟨c0, c1, c2⟩ := HL2.three
  rcases hr' with rfl | ⟨r0', r1', fewt⟩
  · go_wp2
    go_ret
    exact ⟨rfl, hb2⟩
  have FT : Hid t.few := fewt
  have HTC : Hid (∀ u : World, Below w.heap.size w u → Calls Try.prog 9 #[.slice bl cols.length ql] u fun e w' => ∃ v, e = .returned v ∧ Below u.heap.size u w' ∧ StrsV w' v cols) := fun u hu => (toStringS_any _ cols u (HR.out.on hu) fewc).mono fun e w' ⟨v, h1, h2, h3, _⟩ => ⟨v, h1, h2, h3⟩
  have HTK : Hid (∀ u : World, Below w.heap.size w u → Calls Try.prog 9 #[.slice b keys.length q] u fun e w' => ∃ v, e = .returned v ∧ Below u.heap.size u w' ∧ StrsV w' v keys) := fun u hu => (toStringS_any _ keys u (HY.out.on hu) fewk).mono fun e w' ⟨v, h1, h2, h3, _⟩ => ⟨v, h1, h2, h3⟩
  have HTT : Hid (∀ u : World, Below w.heap.size w u → Calls Try.prog 10 #[.agg #[.string t.name, .slice a t.cols.length p, .slice o t.keys.length z]] u fun e w' => ∃ y, e = .returned (.agg y) ∧ Below u.heap.size u w' ∧ TabV w' y t) := fun u hu => (toTable_any _ t u (HX.out.on hu) FT.out).mono fun e w' ⟨y, h1, h2, h3, _⟩ => ⟨y, h1, h2, h3⟩
  clear fewt fewc fewk
  go_wp2_with fail
  refine region_plan [([0, 2, 4], 1), ([], 3), ([], 5), ([], 6)] [7] (by kernel_rfl) (by kernel_rfl) ?_
  have hgd := Grows.drawn w2
  generalize { w2 with drawn := w2.drawn + 1 } = wd at hgd ⊢
  have hbd := ch_trans hb2 hgd
  have c0 := cell_on c0 hgd
  have c1 := cell_on c1 hgd
  have c2 := cell_on c2 hgd
  refine plan_on (by simp only [pick, List.getElem?_toArray, List.getElem?_cons_succ, List.getElem?_cons_zero]; rfl) ?_
  repeat (go_big_quiet_step ((intro hu; have j0 := hu.cell c0; have j1 := hu.cell c1; have j2 := hu.cell c2; go_simp; (try exact rfl))))
  refine wpQuiet_nil ?_
  refine plan_call rfl rfl (fun K hK => ?_)
  go_simp
  go_at_call 9
  refine (HTC.out _ hbd).mono ?_
  rintro e wa ⟨va, rfl, ba, hva⟩
  refine ⟨_, rfl, hK _ _ ⟨ba, ?_⟩⟩
  have HVA : Hid (StrsV wa va cols) := hva
  have hba := ch_trans hbd ba
  have h2a := ch_trans hgd ba
  clear hva hK K ba c0 c1 c2 hbd hgd
  refine plan_on rfl ?_
  refine wpQuiet_nil ?_
  refine plan_call rfl rfl (fun K hK => ?_)
  go_simp
  go_at_call 9
  refine (HTK.out _ hba).mono ?_
  rintro e wl ⟨vl, rfl, bl', hvl⟩
  refine ⟨_, rfl, hK _ _ ⟨bl', ?_⟩⟩
  have HVL : Hid (StrsV wl vl keys) := hvl
  have HVA2 : Hid (StrsV wl va cols) := HVA.out.on bl'
  have hbl := ch_trans hba bl'
  have h2l := ch_trans h2a bl'
  clear hvl hK K bl' HVA hba h2a
  refine plan_on rfl ?_
  refine wpQuiet_nil ?_
  refine plan_call rfl rfl (fun K hK => ?_)
  go_simp
  go_at_call 10
  refine (HTT.out _ hbl).mono ?_
  rintro e wb ⟨yb, rfl, bb, hyb⟩
  refine ⟨_, rfl, hK _ _ ⟨bb, ?_⟩⟩
  have HYB : Hid (TabV wb yb t) := hyb
  have HVA3 : Hid (StrsV wb va cols) := HVA2.out.on bb
  have HVL3 : Hid (StrsV wb vl keys) := HVL.out.on bb
  have hbb := ch_trans hbl bb
  have h2b := ch_trans h2l bb
  clear hyb hK K bb HVA2 HVL hbl h2l
  refine plan_on rfl ?_
  refine wpQuiet_nil ?_
  refine plan_call rfl rfl (fun K hK => ?_)
  go_simp
  go_at_call 8
  refine (drift_spec _ va vl cols keys t _ HYB.out HVA3.out HVL3.out HF.out.1).mono ?_
  rintro e wc ⟨q0, rfl, hq0, bc⟩
  refine ⟨_, rfl, hK _ _ ⟨bc, ?_⟩⟩
  have HQ : Hid (isDrift cols keys t q0) := hq0
  have hbc := ch_trans hbb bc
  have HL3 := HL2.on (ch_trans h2b bc)
  clear hq0 hK K bc HYB HVA3 HVL3 hbb h2b HL2 hb2
  refine plan_end (by simp only [pick, List.getElem?_toArray, List.getElem?_cons_succ, List.getElem?_cons_zero]; rfl) ?_
  repeat (go_big_quiet_step ((intro hu; go_simp; (try exact rfl))))
  refine wpQuiet_nil ?_
  obtain ⟨c0, c1, c2⟩ := HL3.three
  go_wp2_with fail
  refine (HTC.out _ hbc).mono ?_
  rintro e w4 ⟨v4, rfl, b4, h4⟩
  have HV4 : Hid (StrsV w4 v4 cols) := h4
  have hb4 := ch_trans hbc b4
  clear h4
  go_wp2_with fail
  refine (HTK.out _ hb4).mono ?_
  rintro e w5 ⟨v5, rfl, b5, h5⟩
  have HV5 : Hid (StrsV w5 v5 keys) := h5
  have hb5 := ch_trans hb4 b5
  have HL5 := HL3.on (ch_trans b4 b5)
  have HV4' : Hid (StrsV w5 v4 cols) := HV4.out.on b5
  clear h5 c0 c1 c2 HV4 b4 b5 hb4 hbc HL3
  obtain ⟨c0, c1, c2⟩ := HL5.three
  go_wp2_with fail
  refine (HTT.out _ hb5).mono ?_
  rintro e w6 ⟨y6, rfl, b6, hy6⟩
  obtain ⟨a4, p4, o4, q4, rfl, hx4, _, _⟩ := hy6.lit
  have HL6 := HL5.on b6
  have hb6 := ch_trans hb5 b6
  have HN6 := Loc.new w6 #[.string t.name, .slice a4 t.cols.length p4, .slice o4 t.keys.length q4] 32
  have hv6 : Below w6.heap.size w6 (w6.alloc (.cells #[.string t.name, .slice a4 t.cols.length p4, .slice o4 t.keys.length q4] 32)) := (by repeat (first | with_reducible exact Below.refl _ _ | with_reducible assumption | with_reducible refine ch_alloc ?_ _ | with_reducible refine Below.drew ?_ | with_reducible refine below_draws _ ?_ | (with_reducible refine Below.setCell ?_ ?_ _; rotate_left; focus (first | with_reducible exact Nat.le_refl _ | (simp; done) | (simp; omega) | (simp at *; omega))) | with_reducible refine ch_trans ?_ (by with_reducible assumption)))
  have HX6 : Hid (TabV (w6.alloc (.cells #[.string t.name, .slice a4 t.cols.length p4, .slice o4 t.keys.length q4] 32)) #[.string t.name, .slice a4 t.cols.length p4, .slice o4 t.keys.length q4] t) := hx4.on hv6
  have HV6 : Hid (StrsV (w6.alloc (.cells #[.string t.name, .slice a4 t.cols.length p4, .slice o4 t.keys.length q4] 32)) v4 cols) := HV4'.out.on (ch_trans b6 hv6)
  have HK6 : Hid (StrsV (w6.alloc (.cells #[.string t.name, .slice a4 t.cols.length p4, .slice o4 t.keys.length q4] 32)) v5 keys) := HV5.out.on (ch_trans b6 hv6)
  have HL6' := HL6.on hv6
  have hb6' := ch_trans hb6 hv6
  clear hy6 hx4 b6 c0 c1 c2 HV4' HV5 hb5 HL5 HL6 hb6 hv6
  obtain ⟨n0, n1, n2⟩ := HN6.three
  go_wp2_with fail
  generalize w6.alloc (.cells #[.string t.name, .slice a4 t.cols.length p4, .slice o4 t.keys.length q4] 32) = u6 at HN6 HX6 HV6 HK6 HL6' hb6' n0 n1 n2 ⊢
  refine (drift_impl _ v4 v5 cols keys t _ HX6.out HV6.out HK6.out HF.out.1 FT.out HF.out.2.1 HF.out.2.2).mono ?_
  rintro e w7 ⟨q1, rfl, hq1, b7⟩
  obtain rfl : q1 = q0 := hq1.unique HQ.out
  have HL7 := HL6'.on b7
  have HN7 := HN6.on b7
  have hb7 := ch_trans hb6' b7
  have HV7 : Hid (StrsV w7 v4 cols) := HV6.out.on b7
  have HK7 : Hid (StrsV w7 v5 keys) := HK6.out.on b7
  have HX7 : Hid (TabV w7 #[.string t.name, .slice a4 t.cols.length p4, .slice o4 t.keys.length q4] t) := HX6.out.on b7
  clear n0 n1 n2 hq1 HQ b7 HV6 HK6 HX6 HL6' HN6 hb6'
  have hqq : (q1 != q1) = false := by simp
  have hqe : (q1 == q1) = true := by simp
  go_wp2_with fail
  refine (HTC.out _ hb7).mono ?_
  rintro e w8 ⟨v8, rfl, b8, h8⟩
  have HV8 : Hid (StrsV w8 v8 cols) := h8
  clear h8
  go_wp2_with fail
  refine (eqStringS_same _ _ cols _ (HV7.out.on b8) HV8.out).mono ?_
  rintro e w9 ⟨rfl, b9⟩
  have h79 := ch_trans b8 b9
  have hb9 := ch_trans hb7 h79
  clear HV8 HV7 b8 b9
  go_wp2_with fail
  refine (HTK.out _ hb9).mono ?_
  rintro e w10 ⟨v10, rfl, b10, h10⟩
  have HV10 : Hid (StrsV w10 v10 keys) := h10
  clear h10
  go_wp2_with fail
  refine (eqStringS_same _ _ keys _ (HK7.out.on (ch_trans h79 b10)) HV10.out).mono ?_
  rintro e w11 ⟨rfl, b11⟩
  have h711 := ch_trans (ch_trans h79 b10) b11
  have HL11 := HL7.on h711
  have HN11 := HN7.on h711
  have hb11 := ch_trans hb7 h711
  have HX11 : Hid (TabV w11 #[.string t.name, .slice a4 t.cols.length p4, .slice o4 t.keys.length q4] t) := HX7.out.on h711
  clear HV10 HK7 b10 b11 h79 h711 hb9 hb7 HL7 HN7 HX7
  obtain ⟨c0, c1, c2⟩ := HL11.three
  obtain ⟨n0, n1, n2⟩ := HN11.three
  go_wp2_with fail
  go_region_with (first
    | (go_at_call 10; refine (HTT.out _ (by repeat (first | with_reducible exact Below.refl _ _ | with_reducible assumption | with_reducible refine ch_alloc ?_ _ | with_reducible refine Below.drew ?_ | with_reducible refine below_draws _ ?_ | (with_reducible refine Below.setCell ?_ ?_ _; rotate_left; focus (first | with_reducible exact Nat.le_refl _ | (simp; done) | (simp; omega) | (simp at *; omega))) | with_reducible refine ch_trans ?_ (by with_reducible assumption)))).mono ?_; rintro e w12 ⟨y, rfl, b12, hy⟩; have HN12 := HN11.on (w' := w12) (by repeat (first | with_reducible exact Below.refl _ _ | with_reducible assumption | with_reducible refine ch_alloc ?_ _ | with_reducible refine Below.drew ?_ | with_reducible refine below_draws _ ?_ | (with_reducible refine Below.setCell ?_ ?_ _; rotate_left; focus (first | with_reducible exact Nat.le_refl _ | (simp; done) | (simp; omega) | (simp at *; omega))) | with_reducible refine ch_trans ?_ (by with_reducible assumption))); obtain ⟨f0, f1, f2⟩ := HN12.three; have HYY : Hid (TabV w12 y t) := hy; clear hy)
    | (go_at_call 13; refine (eqTable_same _ _ t _ (HX11.out.on (by repeat (first | with_reducible exact Below.refl _ _ | with_reducible assumption | with_reducible refine ch_alloc ?_ _ | with_reducible refine Below.drew ?_ | with_reducible refine below_draws _ ?_ | (with_reducible refine Below.setCell ?_ ?_ _; rotate_left; focus (first | with_reducible exact Nat.le_refl _ | (simp; done) | (simp; omega) | (simp at *; omega))) | with_reducible refine ch_trans ?_ (by with_reducible assumption)))) (HYY.out.on (by repeat (first | with_reducible exact Below.refl _ _ | with_reducible assumption | with_reducible refine ch_alloc ?_ _ | with_reducible refine Below.drew ?_ | with_reducible refine below_draws _ ?_ | (with_reducible refine Below.setCell ?_ ?_ _; rotate_left; focus (first | with_reducible exact Nat.le_refl _ | (simp; done) | (simp; omega) | (simp at *; omega))) | with_reducible refine ch_trans ?_ (by with_reducible assumption))))).mono ?_; rintro e w13 ⟨rfl, b13⟩))
  all_goals
    have h1113 : Below w11.heap.size w11 w13 := (by repeat (first | with_reducible exact Below.refl _ _ | with_reducible assumption | with_reducible refine ch_alloc ?_ _ | with_reducible refine Below.drew ?_ | with_reducible refine below_draws _ ?_ | (with_reducible refine Below.setCell ?_ ?_ _; rotate_left; focus (first | with_reducible exact Nat.le_refl _ | (simp; done) | (simp; omega) | (simp at *; omega))) | with_reducible refine ch_trans ?_ (by with_reducible assumption)))
    have hb13 := ch_trans hb11 h1113
    go_wp2
    go_ret
    exact ⟨rfl, hb13⟩

theorem own : ownKnob Try.prog.godebug = none := by kernel_rfl
theorem laidOut : laidOutB Try.prog = true := by kernel_rfl

set_option maxRecDepth 100000 in
theorem lifted (os : Os) (started : os.Started) (H : Type) (enc : TypeId × Value → H) :
    ReturnsInHanded {} Try.checked os 3 .any (Rows.fnExactDriftSpec.pre6 enc Try.prog Try.f3 Rows.fnExactDriftRow.domain false) (Rows.fnExactDriftSpec.post enc Try.prog Try.f3 false true false false) := by
  refine returnsInHanded_of_change (C := Try.checked) own started (by kernel_rfl) Try.func3
    (ChangeSpec.witness6 (enc := enc) (C := Try.checked) false ⟨#[], #[.slice none 0 0, .slice none 0 0, .agg #[.string ByteArray.empty, .slice none 0 0, .slice none 0 0]], []⟩ 8 (by kernel_rfl) (by kernel_rfl) (by kernel_rfl) (by kernel_rfl)) ?_
  intro W base args ds gs before hval0 hW _ _
  have hval : ∀ (j : Nat) t v, Try.f3.params[j]? = some t → args[j]? = some v → Value.okWide Try.prog W .any base t v := hval0
  have hW' := hW
  obtain ⟨p, q, hA0, hV, rfl, _, _⟩ := hW
  have hA : DataW.TrodAll enc Try.prog W 0 (fun _ => true) true Try.f3.params.toList args.toList ds p := hA0
  rw [Try.params3] at hA hval
  obtain ⟨v0, v1, v2, d0, d1, d2, p0, p1, p2, rfl, rfl, rfl, h0, h1, h2⟩ := trodAll_three hA
  obtain ⟨rfl, rfl⟩ := trodVars_none hV
  have h0k := h0
  have h1k := h1
  have h2k := h2
  obtain ⟨a1, len1, cap1, rfl⟩ := okWide_slice Try.underlying22 (hval 0 22 v0 rfl rfl)
  obtain ⟨k1, hk1⟩ := h0
  obtain ⟨x1, t1, hc1, hx1, hf1⟩ := open_strs hk1
  have hc1' : x1 = .slice a1 len1 cap1 := by simpa [Value.cells] using hc1.symm
  subst hc1'
  obtain ⟨a2, len2, cap2, rfl⟩ := okWide_slice Try.underlying22 (hval 1 22 v1 rfl rfl)
  obtain ⟨k2, hk2⟩ := h1
  obtain ⟨x2, t2, hc2, hx2, hf2⟩ := open_strs hk2
  have hc2' : x2 = .slice a2 len2 cap2 := by simpa [Value.cells] using hc2.symm
  subst hc2'
  obtain ⟨cs, rfl, hsz⟩ := okWide_struct Try.underlying25 (hval 2 25 v2 rfl rfl)
  obtain ⟨k, hk⟩ := h2
  obtain ⟨x, t, hc, hx, hf⟩ := open_tab hk
  have hc' : cs = x := by apply Array.toList_inj.1; simpa [Value.cells] using hc
  subst hc'
  clear hA0 hval0
  simp only [List.append_nil] at hW'
  have hlt : ∀ x ∈ p0, x.block < W.heap.size := fun x hx => by simpa using hW'.lt x (by simp [hx])
  have hlt1 : ∀ x ∈ p1, x.block < W.heap.size := fun x hx => by simpa using hW'.lt x (by simp [hx])
  have hlt2 : ∀ x ∈ p2, x.block < W.heap.size := fun x hx => by simpa using hW'.lt x (by simp [hx])
  refine (walk cs _ _ t1 t2 t W hx1 hx2 hx hf1 hf2 hf).mono fun e W' ⟨he, bel⟩ => ?_
  subst he
  exact ⟨_, rfl, _, _, _, [], _, [], hW', trodAll_mk1 (shut_bool Try.underlying4 _), trodAll_mk3 (Below.trod laidOut (by kernel_rfl) (of_decide_eq_true (by kernel_rfl)) h0k bel hlt) (Below.trod laidOut (by kernel_rfl) (of_decide_eq_true (by kernel_rfl)) h1k bel hlt1) (Below.trod laidOut (by kernel_rfl) (of_decide_eq_true (by kernel_rfl)) h2k bel hlt2), rfl, bel.frame _, fun h => by cases h⟩

theorem over : Rows.FnExactDriftSaid :=
  OpenClaim.holds_of_wide 3 Try.f3 rfl rfl rfl rfl rfl rfl rfl ⟨rfl, rfl, rfl, rfl, rfl⟩ rfl rfl rfl rfl rfl (by kernel_rfl) Try.func3 (by kernel_rfl)
    (of_decide_eq_true (by kernel_rfl)) (by unfold Func.isWrapper; first | (rw [if_pos (by decide +kernel)]; kernel_rfl) | (rw [if_neg (by decide +kernel)]; exact ⟨rfl, rfl⟩))
    (fun os started H enc _ => lifted os started H enc)
end Go.Proofs.Ytiijahoheajppaa.lawDrift
namespace Go.Proofs.Ytiijahoheajppaa
theorem fnExactDrift_holds : Rows.FnExactDriftSaid := lawDrift.over
#print axioms fnExactDrift_holds
end Go.Proofs.Ytiijahoheajppaa
