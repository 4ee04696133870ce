/- For every table, every list of rows and every key the landed RowAt answers as the given one does, and leaves them as they were: 'FnExactRowAt' returns true at every argument, with no condition; its arguments read afterwards as they read before. -/
import Derived.Test.YtbpdbhchnpnabajRa
import Derived.Test.YtbpdbhchnpnabajOpenT
import Derived.Test.YtbpdbhchnpnabajOpenRs
namespace Go.Proofs.Ytbpdbhchnpnabaj.lawRowAt
open Go.ChangeShapes Go.WideShapes Go.ChangeAt Go.RowKit

set_option maxRecDepth 100000 in
set_option maxHeartbeats 2000000 in
theorem walk (x : Array Value) (l y : Value) (t : Tc) (rs : List (List Vc)) (vs : List Vc) (w : World) (hx : TabV w x t) (hl : RowsV w l rs) (hy : ValsV w y vs) (hfs : t.fit) (hfl : rfits rs) (hft : vfit vs) :
    Calls Try.prog 3 #[.agg x, l, y] w fun e w' => e = .returned (.bool true) ∧ Below w.heap.size w w' := by
  obtain ⟨a, p, o, z, rfl, hx, _, _⟩ := hx.lit
  obtain ⟨bl, ql, rfl, _, _, hl⟩ := hl.lit
  obtain ⟨b, q, rfl, _, _, hy⟩ := hy.lit
  have HX : Hid (TabV w #[.string t.name, .slice a t.cols.length p, .slice o t.keys.length z] t) := hx
  have HR : Hid (RowsV w (.slice bl rs.length ql) rs) := hl
  have HY : Hid (ValsV w (.slice b vs.length q) vs) := hy
  have HF : Hid (t.fit ∧ rfits rs ∧ vfit vs) := ⟨hfs, hfl, hft⟩
  have HL := Loc.new w #[.string t.name, .slice a t.cols.length p, .slice o t.keys.length z] 25
  have hbv : Below w.heap.size w (w.alloc (.cells #[.string t.name, .slice a t.cols.length p, .slice o t.keys.length z] 25)) := (by repeat (first | with_reducible exact Below.refl _ _ | with_reducible assumption | with_reducible refine ch_alloc ?_ _ | with_reducible refine Below.drew ?_ | with_reducible refine below_draws _ ?_ | (with_reducible refine Below.setCell ?_ ?_ _; rotate_left; focus (first | with_reducible exact Nat.le_refl _ | (simp; done) | (simp; omega) | (simp at *; omega))) | with_reducible refine ch_trans ?_ (by with_reducible assumption)))
  clear hx hy hl hfs hft hfl
  go_enter Try.func3, Try.ntmps3
  go_wp2_with fail
  refine (szTable_any _ t _ _ (HX.out.on hbv) HF.out.1 (by omega) (by omega)).mono ?_
  rintro e w1 ⟨r, rfl, b1, hr⟩
  have HL1 := HL.on b1
  have hb1 := ch_trans hbv b1
  clear b1 hbv HL
  obtain ⟨c0, c1, c2⟩ := HL1.three
  rcases hr with rfl | ⟨r0, r1, fews⟩
  · go_wp2
    go_ret
    exact ⟨rfl, hb1⟩
  go_wp2_with fail
  refine (szRowS_any _ rs r _ (HR.out.on hb1) HF.out.2.1 (by omega) (by omega)).mono ?_
  rintro e w1' ⟨s, rfl, b1, hr⟩
  have HL1' := HL1.on b1
  have hb1' := ch_trans hb1 b1
  clear b1 hb1 HL1 c0 c1 c2
  obtain ⟨c0, c1, c2⟩ := HL1'.three
  rcases hr with rfl | ⟨s0, s1, fewr⟩
  · go_wp2
    go_ret
    exact ⟨rfl, hb1'⟩
  have FR : Hid (rfews rs) := fewr
  have hmr : rs.length ≤ maxLen := by have := fewr.1; unfold maxLen; omega
  clear fewr
  go_wp2_with fail
  refine (szValS_any _ vs s _ (HY.out.on hb1') HF.out.2.2 (by omega) (by omega)).mono ?_
  rintro e w2 ⟨r', rfl, b2, hr'⟩
  have HL2 := HL1'.on b2
  have hb2 := ch_trans hb1' b2
  clear c0 c1 c2 b2 hb1' HL1'
  obtain ⟨c0, c1, c2⟩ := HL2.three
  rcases hr' with rfl | ⟨r0', r1', fewt⟩
  · go_wp2
    go_ret
    exact ⟨rfl, hb2⟩
  have hmt : vs.length ≤ maxLen := by unfold maxLen; omega
  have FT : Hid t.few := fews
  clear fews
  have HTR : Hid (∀ u : World, Below w.heap.size w u → Calls Try.prog 10 #[.slice b vs.length q] u fun e w' => ∃ c, e = .returned (.slice c vs.length vs.length) ∧ Below u.heap.size u w' ∧ ValsV w' (.slice c vs.length vs.length) vs) := fun u hu => (toValS_any _ vs u (HY.out.on hu) fewt).mono fun e w' ⟨h1, h3, h4⟩ => ⟨_, h1, h3, h4.valsV hmt⟩
  have HTL : Hid (∀ u : World, Below w.heap.size w u → Calls Try.prog 9 #[.slice bl rs.length ql] u fun e w' => ∃ c, e = .returned (.slice c rs.length rs.length) ∧ Below u.heap.size u w' ∧ RowsV w' (.slice c rs.length rs.length) rs) := fun u hu => (toRowS_any _ rs u (HR.out.on hu) FR.out).mono fun e w' ⟨B, h1, _, h3, h4⟩ => ⟨_, h1, h3, h4.done hmr⟩
  have HTT : Hid (∀ u : World, Below w.heap.size w u → Calls Try.prog 8 #[.agg #[.string t.name, .slice a t.cols.length p, .slice o t.keys.length z]] u fun e w' => ∃ y, e = .returned (.agg y) ∧ Below u.heap.size u w' ∧ TabV w' y t) := fun u hu => (toTable_any _ t u (HX.out.on hu) FT.out).mono fun e w' ⟨y, h1, h2, h3, _⟩ => ⟨y, h1, h2, h3⟩
  clear fewt
  go_wp2_with fail
  refine (HTT.out _ hb2).mono ?_
  rintro e wa ⟨ya, rfl, ba, hya⟩
  have HYA : Hid (TabV wa ya t) := hya
  have hba := ch_trans hb2 ba
  clear hya
  go_wp2_with fail
  refine (HTL.out _ hba).mono ?_
  rintro e wl ⟨cl, rfl, bl', hzl⟩
  have HZL : Hid (RowsV wl (.slice cl rs.length rs.length) rs) := hzl
  have hbl := ch_trans hba bl'
  clear hzl
  go_wp2_with fail
  refine (HTR.out _ hbl).mono ?_
  rintro e wb ⟨cb, rfl, bb, hzb⟩
  have HZB : Hid (ValsV wb (.slice cb vs.length vs.length) vs) := hzb
  have hbb := ch_trans hbl bb
  clear hzb
  go_wp2_with fail
  refine (rowAt_spec _ t _ rs _ vs _ (HYA.out.on (ch_trans bl' bb)) (HZL.out.on bb) HZB.out HF.out.1).mono ?_
  rintro e wc ⟨q0, rfl, hq0, bc⟩
  have HQ : Hid (isRow t rs vs q0) := hq0
  have hbc := ch_trans hbb bc
  have HL3 := HL2.on (ch_trans ba (ch_trans bl' (ch_trans bb bc)))
  clear c0 c1 c2 ba bb bc bl' hba hbl hbb hb2 HYA HZL HZB hq0 HL2
  obtain ⟨c0, c1, c2⟩ := HL3.three
  go_wp2_with fail
  refine (HTT.out _ hbc).mono ?_
  rintro e w4 ⟨y, rfl, b4, hy⟩
  obtain ⟨a4, p4, o4, q4, rfl, hx4, _, _⟩ := hy.lit
  have HX4 : Hid (TabV w4 #[.string t.name, .slice a4 t.cols.length p4, .slice o4 t.keys.length q4] t) := hx4
  have HL4 := HL3.on b4
  have HN4 := Loc.new w4 #[.string t.name, .slice a4 t.cols.length p4, .slice o4 t.keys.length q4] 34
  have hv4 : Below w4.heap.size w4 (w4.alloc (.cells #[.string t.name, .slice a4 t.cols.length p4, .slice o4 t.keys.length q4] 34)) := (by repeat (first | with_reducible exact Below.refl _ _ | with_reducible assumption | with_reducible refine ch_alloc ?_ _ | with_reducible refine Below.drew ?_ | with_reducible refine below_draws _ ?_ | (with_reducible refine Below.setCell ?_ ?_ _; rotate_left; focus (first | with_reducible exact Nat.le_refl _ | (simp; done) | (simp; omega) | (simp at *; omega))) | with_reducible refine ch_trans ?_ (by with_reducible assumption)))
  have hb4 := ch_trans hbc b4
  clear c0 c1 c2 hy hx4 b4 hbc HL3
  go_wp2_with fail
  refine (HTL.out _ (ch_trans hb4 hv4)).mono ?_
  rintro e w5 ⟨c5, rfl, b5, hx5⟩
  have HX5 : Hid (RowsV w5 (.slice c5 rs.length rs.length) rs) := hx5
  have h45 := ch_trans hv4 b5
  have HL5 := HL4.on h45
  have HN5 := HN4.on b5
  have hb5 := ch_trans hb4 h45
  clear hx5 b5 hv4 HL4 HN4
  go_wp2_with fail
  refine (HTR.out _ hb5).mono ?_
  rintro e w6 ⟨c6, rfl, b6, hx6⟩
  have HX6 : Hid (ValsV w6 (.slice c6 vs.length vs.length) vs) := hx6
  have HL6 := HL5.on b6
  have HN6 := HN5.on b6
  have h46 := ch_trans h45 b6
  have hb6 := ch_trans hb5 b6
  have HX5' : Hid (RowsV w6 (.slice c5 rs.length rs.length) rs) := HX5.out.on b6
  clear hx6 b6 h45 HL5 HN5 HX5 hb5
  obtain ⟨n0, n1, n2⟩ := HN6.three
  go_wp2_with fail
  refine (rowAt_impl _ t _ rs _ vs _ (HX4.out.on h46) HX5'.out HX6.out HF.out.1 FT.out.2).mono ?_
  rintro e w7 ⟨q1, rfl, hq1, b7⟩
  obtain rfl : q1 = q0 := isRow_one hq1 HQ.out
  have HL7 := HL6.on b7
  have HN7 := HN6.on b7
  have h47 := ch_trans h46 b7
  have hb7 := ch_trans hb6 b7
  have HX5 : Hid (RowsV w7 (.slice c5 rs.length rs.length) rs) := HX5'.out.on b7
  have HX6' : Hid (ValsV w7 (.slice c6 vs.length vs.length) vs) := HX6.out.on b7
  have HX4' : Hid (TabV w7 #[.string t.name, .slice a4 t.cols.length p4, .slice o4 t.keys.length q4] t) := HX4.out.on h47
  clear n0 n1 n2 hq1 HQ b7 h46 h47 HX5' HX6 HX4 HL6 HN6 hb4 hb6
  obtain ⟨c0, c1, c2⟩ := HL7.three
  obtain ⟨n0, n1, n2⟩ := HN7.three
  have hqq : (q1 != q1) = false := by simp
  have hqe : (q1 == q1) = true := by simp
  go_wp2_with fail
  go_region_with (first
    | (go_at_call 8; refine (HTT.out _ (by repeat (first | with_reducible exact Below.refl _ _ | with_reducible assumption | with_reducible refine ch_alloc ?_ _ | with_reducible refine Below.drew ?_ | with_reducible refine below_draws _ ?_ | (with_reducible refine Below.setCell ?_ ?_ _; rotate_left; focus (first | with_reducible exact Nat.le_refl _ | (simp; done) | (simp; omega) | (simp at *; omega))) | with_reducible refine ch_trans ?_ (by with_reducible assumption)))).mono ?_; rintro e w8 ⟨y, rfl, b8, hy⟩; have HN8 := HN7.on (w' := w8) (by repeat (first | with_reducible exact Below.refl _ _ | with_reducible assumption | with_reducible refine ch_alloc ?_ _ | with_reducible refine Below.drew ?_ | with_reducible refine below_draws _ ?_ | (with_reducible refine Below.setCell ?_ ?_ _; rotate_left; focus (first | with_reducible exact Nat.le_refl _ | (simp; done) | (simp; omega) | (simp at *; omega))) | with_reducible refine ch_trans ?_ (by with_reducible assumption))); obtain ⟨f0, f1, f2⟩ := HN8.three; have HYY : Hid (TabV w8 y t) := hy; clear hy)
    | (go_at_call 12; refine (eqTable_same _ _ t _ (HX4'.out.on (by repeat (first | with_reducible exact Below.refl _ _ | with_reducible assumption | with_reducible refine ch_alloc ?_ _ | with_reducible refine Below.drew ?_ | with_reducible refine below_draws _ ?_ | (with_reducible refine Below.setCell ?_ ?_ _; rotate_left; focus (first | with_reducible exact Nat.le_refl _ | (simp; done) | (simp; omega) | (simp at *; omega))) | with_reducible refine ch_trans ?_ (by with_reducible assumption)))) (HYY.out.on (by repeat (first | with_reducible exact Below.refl _ _ | with_reducible assumption | with_reducible refine ch_alloc ?_ _ | with_reducible refine Below.drew ?_ | with_reducible refine below_draws _ ?_ | (with_reducible refine Below.setCell ?_ ?_ _; rotate_left; focus (first | with_reducible exact Nat.le_refl _ | (simp; done) | (simp; omega) | (simp at *; omega))) | with_reducible refine ch_trans ?_ (by with_reducible assumption))))).mono ?_; rintro e w9 ⟨rfl, b9⟩))
  all_goals
    have h79 : Below w7.heap.size w7 w9 := (by repeat (first | with_reducible exact Below.refl _ _ | with_reducible assumption | with_reducible refine ch_alloc ?_ _ | with_reducible refine Below.drew ?_ | with_reducible refine below_draws _ ?_ | (with_reducible refine Below.setCell ?_ ?_ _; rotate_left; focus (first | with_reducible exact Nat.le_refl _ | (simp; done) | (simp; omega) | (simp at *; omega))) | with_reducible refine ch_trans ?_ (by with_reducible assumption)))
    have hb9 := ch_trans hb7 h79
    go_wp2_with fail
    refine (HTL.out _ hb9).mono ?_
    rintro e w10 ⟨c9, rfl, b10, hz⟩
    have HZZ : Hid (RowsV w10 (.slice c9 rs.length rs.length) rs) := hz
    have h710 := ch_trans h79 b10
    clear hz
    go_wp2_with fail
    refine (eqRowS_same _ _ rs _ (HX5.out.on h710) HZZ.out).mono ?_
    rintro e w11 ⟨rfl, b11⟩
    have h711 := ch_trans h710 b11
    have hb11 := ch_trans hb7 h711
    go_wp2_with fail
    refine (HTR.out _ hb11).mono ?_
    rintro e w12 ⟨c12, rfl, b12, hz⟩
    have HZ2 : Hid (ValsV w12 (.slice c12 vs.length vs.length) vs) := hz
    have h712 := ch_trans h711 b12
    clear hz
    go_wp2_with fail
    refine (eqValS_same _ _ vs _ (HX6'.out.on h712) HZ2.out).mono ?_
    rintro e w13 ⟨rfl, b13⟩
    have hb13 := ch_trans hb7 (ch_trans h712 b13)
    go_wp2
    go_ret
    exact ⟨rfl, hb13⟩

theorem own : ownKnob Try.prog.godebug = none := by kernel_rfl
theorem laidOut : laidOutB Try.prog = true := by kernel_rfl

set_option maxRecDepth 100000 in
theorem lifted (os : Os) (started : os.Started) (H : Type) (enc : TypeId × Value → H) :
    ReturnsInHanded {} Try.checked os 3 .any (Rows.fnExactRowAtSpec.pre6 enc Try.prog Try.f3 Rows.fnExactRowAtRow.domain false) (Rows.fnExactRowAtSpec.post enc Try.prog Try.f3 false true false false) := by
  refine returnsInHanded_of_change (C := Try.checked) own started (by kernel_rfl) Try.func3
    (ChangeSpec.witness6 (enc := enc) (C := Try.checked) false ⟨#[], #[.agg #[.string ByteArray.empty, .slice none 0 0, .slice none 0 0], .slice none 0 0, .slice none 0 0], []⟩ 8 (by kernel_rfl) (by kernel_rfl) (by kernel_rfl) (by kernel_rfl)) ?_
  intro W base args ds gs before hval0 hW _ _
  have hval : ∀ (j : Nat) t v, Try.f3.params[j]? = some t → args[j]? = some v → Value.okWide Try.prog W .any base t v := hval0
  have hW' := hW
  obtain ⟨p, q, hA0, hV, rfl, _, _⟩ := hW
  have hA : DataW.TrodAll enc Try.prog W 0 (fun _ => true) true Try.f3.params.toList args.toList ds p := hA0
  rw [Try.params3] at hA hval
  obtain ⟨v0, v1, v2, d0, d1, d2, p0, p1, p2, rfl, rfl, rfl, h0, h1, h2⟩ := trodAll_three hA
  obtain ⟨rfl, rfl⟩ := trodVars_none hV
  have h0k := h0
  have h1k := h1
  have h2k := h2
  obtain ⟨cs, rfl, hsz⟩ := okWide_struct Try.underlying25 (hval 0 25 v0 rfl rfl)
  obtain ⟨k, hk⟩ := h0
  obtain ⟨x, t, hc, hx, hf⟩ := open_tab hk
  have hc' : cs = x := by apply Array.toList_inj.1; simpa [Value.cells] using hc
  subst hc'
  obtain ⟨a1, len1, cap1, rfl⟩ := okWide_slice Try.underlying26 (hval 1 26 v1 rfl rfl)
  obtain ⟨k1, hk1⟩ := h1
  obtain ⟨x1, t1, hc1, hx1, hf1⟩ := open_rows hk1
  have hc1' : x1 = .slice a1 len1 cap1 := by simpa [Value.cells] using hc1.symm
  subst hc1'
  obtain ⟨a2, len2, cap2, rfl⟩ := okWide_slice Try.underlying27 (hval 2 27 v2 rfl rfl)
  obtain ⟨k2, hk2⟩ := h2
  obtain ⟨x2, t2, hc2, hx2, hf2⟩ := open_vals hk2
  have hc2' : x2 = .slice a2 len2 cap2 := by simpa [Value.cells] using hc2.symm
  subst hc2'
  clear hA0 hval0
  simp only [List.append_nil] at hW'
  have hlt : ∀ x ∈ p0, x.block < W.heap.size := fun x hx => by simpa using hW'.lt x (by simp [hx])
  have hlt1 : ∀ x ∈ p1, x.block < W.heap.size := fun x hx => by simpa using hW'.lt x (by simp [hx])
  have hlt2 : ∀ x ∈ p2, x.block < W.heap.size := fun x hx => by simpa using hW'.lt x (by simp [hx])
  refine (walk cs _ _ t t1 t2 W hx hx1 hx2 hf hf1 hf2).mono fun e W' ⟨he, bel⟩ => ?_
  subst he
  exact ⟨_, rfl, _, _, _, [], _, [], hW', trodAll_mk1 (shut_bool Try.underlying4 _), trodAll_mk3 (Below.trod laidOut (by kernel_rfl) (of_decide_eq_true (by kernel_rfl)) h0k bel hlt) (Below.trod laidOut (by kernel_rfl) (of_decide_eq_true (by kernel_rfl)) h1k bel hlt1) (Below.trod laidOut (by kernel_rfl) (of_decide_eq_true (by kernel_rfl)) h2k bel hlt2), rfl, bel.frame _, fun h => by cases h⟩

theorem over : Rows.FnExactRowAtSaid :=
  OpenClaim.holds_of_wide 3 Try.f3 rfl rfl rfl rfl rfl rfl rfl ⟨rfl, rfl, rfl, rfl, rfl⟩ rfl rfl rfl rfl rfl (by kernel_rfl) Try.func3 (by kernel_rfl)
    (of_decide_eq_true (by kernel_rfl)) (by unfold Func.isWrapper; first | (rw [if_pos (by decide +kernel)]; kernel_rfl) | (rw [if_neg (by decide +kernel)]; exact ⟨rfl, rfl⟩))
    (fun os started H enc _ => lifted os started H enc)
end Go.Proofs.Ytbpdbhchnpnabaj.lawRowAt
namespace Go.Proofs.Ytbpdbhchnpnabaj
theorem fnExactRowAt_holds : Rows.FnExactRowAtSaid := lawRowAt.over
#print axioms fnExactRowAt_holds
end Go.Proofs.Ytbpdbhchnpnabaj
