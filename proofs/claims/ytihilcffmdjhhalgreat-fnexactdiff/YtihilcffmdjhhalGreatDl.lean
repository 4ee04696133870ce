/- Whether two right stores have a table alike: spec.l04Same, impl.sameIn. -/
import Derived.Test.YtihilcffmdjhhalGreatSd
import Derived.Test.YtihilcffmdjhhalGreatPa
namespace Go.Proofs.YtihilcffmdjhhalGreat
open Go.ChangeShapes Go.WideShapes Go.ChangeAt Go.RowKit

/-- The table is in both, and the same. -/
def isSame (ts : List Tc) (ds : List (List (List Vc))) (ts' : List Tc) (ds' : List (List (List Vc))) (s : ByteArray) : Prop :=
  ∃ i j : Nat, tabAt ts s = i ∧ tabAt ts' s = j ∧ ∃ (h : i < ts.length) (h' : j < ts'.length) (g : i < ds.length) (g' : j < ds'.length), sameT ts[i] ts'[j] ∧ ds[i] = ds'[j]

set_option maxRecDepth 100000 in
set_option maxHeartbeats 4000000 in
/-- spec.l04Same -/
theorem l04Same_any (cv dv cv' dv' : Value) (ts ts' : List Tc) (ds ds' : List (List (List Vc))) (s : ByteArray) (w : World) (hc : TabsV w cv ts) (hd : DataV w dv ds) (hc' : TabsV w cv' ts') (hd' : DataV w dv' ds') (hf : fits ts) (hf' : fits ts') (hr : dbRight ts ds) (hr' : dbRight ts' ds') :
    Calls Tryz.prog 22 #[.agg #[cv, dv], .agg #[cv', dv'], .string s] w fun e w' => ∃ q : Bool, e = .returned (.bool q) ∧ (q = true ↔ isSame ts ds ts' ds' s) ∧ Below w.heap.size w w' := by
  obtain ⟨a, p, rfl, hl, hm⟩ := hc.lit
  obtain ⟨b, q, rfl, hl2, hm2, _⟩ := hd.lit
  obtain ⟨a', p', rfl, hl', hm'⟩ := hc'.lit
  obtain ⟨b', q', rfl, hl2', hm2', _⟩ := hd'.lit
  unfold maxLen at hm hm2 hm' hm2'
  have HC : Hid (TabsV w (.slice a ts.length p) ts) := hc
  have HD : Hid (DataV w (.slice b ds.length q) ds) := hd
  have HC' : Hid (TabsV w (.slice a' ts'.length p') ts') := hc'
  have HD' : Hid (DataV w (.slice b' ds'.length q') ds') := hd'
  have HF : Hid (fits ts ∧ fits ts') := ⟨hf, hf'⟩
  have HLN : Hid (ds.length = ts.length ∧ ds'.length = ts'.length) := ⟨hr.2.1, hr'.2.1⟩
  have HL := Loc.new w #[.slice a ts.length p, .slice b ds.length q] 36
  have HL2 := Loc.new (w.alloc (.cells #[.slice a ts.length p, .slice b ds.length q] 36)) #[.slice a' ts'.length p', .slice b' ds'.length q'] 36
  rw [show (w.alloc (.cells #[.slice a ts.length p, .slice b ds.length q] 36)).heap.size = w.heap.size + 1 from by simp] at HL2
  have HLb := HL.on (ch_alloc (Below.refl _ _) (.cells #[.slice a' ts'.length p', .slice b' ds'.length q'] 36))
  have hbv : Below w.heap.size w ((w.alloc (.cells #[.slice a ts.length p, .slice b ds.length q] 36)).alloc (.cells #[.slice a' ts'.length p', .slice b' ds'.length q'] 36)) := (by repeat (first | with_reducible exact Below.refl _ _ | with_reducible assumption | with_reducible refine ch_alloc ?_ _ | with_reducible refine Below.drew ?_ | with_reducible refine below_draws _ ?_ | (with_reducible refine Below.setCell ?_ ?_ _; rotate_left; focus (first | with_reducible exact Nat.le_refl _ | (simp; done) | (simp; omega) | (simp at *; omega))) | with_reducible refine ch_trans ?_ (by with_reducible assumption)))
  clear hc hd hc' hd' hf hf' hr hr' HL
  obtain ⟨l0, l1⟩ := HLb.two
  obtain ⟨m0, m1⟩ := HL2.two
  go_enter Tryz.func22, Tryz.ntmps22
  go_wp2_with fail
  refine (tabAt_spec _ ts s _ (HC.out.on hbv)).mono ?_
  rintro e w1 ⟨rfl, b1⟩
  have HLc := HLb.on b1
  have HL3 := HL2.on b1
  have hb1 := ch_trans hbv b1
  clear b1 hbv HLb HL2 l0 l1 m0 m1
  obtain ⟨l0, l1⟩ := HLc.two
  obtain ⟨m0, m1⟩ := HL3.two
  go_wp2_with fail
  refine (tabAt_spec _ ts' s _ (HC'.out.on hb1)).mono ?_
  rintro e w2 ⟨rfl, b2⟩
  have HLd := HLc.on b2
  have HL4 := HL3.on b2
  have hb2 := ch_trans hb1 b2
  clear b2 hb1 HLc HL3 l0 l1 m0 m1
  obtain ⟨l0, l1⟩ := HLd.two
  obtain ⟨m0, m1⟩ := HL4.two
  rcases tabAt_lt ts s with h1 | ⟨i, h1, hi⟩
  · have HN : Hid (¬ isSame ts ds ts' ds' s) := fun ⟨i, j, e, _⟩ => by rw [h1] at e; omega
    have hneg : decide ((-1 : Int) < 0) = true := by decide
    rw [h1]
    clear h1
    go_wp2_with fail
    refine region_grown (by kernel_rfl) (by kernel_rfl) ?_
    repeat (go_big_quiet_step ((intro hu; have n0 := hu.cell l0; have n1 := hu.cell l1; have n2 := hu.cell m0; have n3 := hu.cell m1; go_simp; (try exact rfl))))
    refine wpQuiet_nil ?_
    intro w4 b4
    have b4 : Below w2.heap.size w2 w4 := b4
    go_wp2
    go_ret
    exact ⟨_, rfl, ⟨fun h => by simp at h, fun h => absurd h HN.out⟩, ch_trans hb2 b4⟩
  have hnn : decide ((i : Int) < 0) = false := by simp
  rcases tabAt_lt ts' s with h2 | ⟨j, h2, hj⟩
  · have HN : Hid (¬ isSame ts ds ts' ds' s) := fun ⟨i, j, _, e, _⟩ => by rw [h2] at e; omega
    rw [h1, h2]
    clear h1 h2
    go_wp2_with fail
    refine region_grown (by kernel_rfl) (by kernel_rfl) ?_
    repeat (go_big_quiet_step ((intro hu; have n0 := hu.cell l0; have n1 := hu.cell l1; have n2 := hu.cell m0; have n3 := hu.cell m1; go_simp; (try exact rfl))))
    refine wpQuiet_nil ?_
    intro w4 b4
    have b4 : Below w2.heap.size w2 w4 := b4
    go_wp2
    go_ret
    exact ⟨_, rfl, ⟨fun h => by simp at h, fun h => absurd h HN.out⟩, ch_trans hb2 b4⟩
  have hid : i < ds.length := by rw [HLN.out.1]; exact hi
  have hjd : j < ds'.length := by rw [HLN.out.2]; exact hj
  have hii : (i : Int) < ts.length := by omega
  have hji : (j : Int) < ts'.length := by omega
  have hidi : (i : Int) < ds.length := by omega
  have hjdi : (j : Int) < ds'.length := by omega
  obtain ⟨bt, offt, c1, p1, c2, p2, rfl, t0, t1, t2, hxt⟩ := (HC.out.on hb2).tab i hi
  obtain ⟨bt', offt', c1', p1', c2', p2', rfl, t0', t1', t2', hxt'⟩ := (HC'.out.on hb2).tab j hj
  obtain ⟨bd, offd, c3, p3, rfl, f0, hr⟩ := (HD.out.on hb2).rw i hid
  obtain ⟨bd', offd', c3', p3', rfl, f0', hr'⟩ := (HD'.out.on hb2).rw j hjd
  obtain ⟨qa, hqa⟩ := bool_of (sameT ts[i] ts'[j])
  obtain ⟨qb, hqb⟩ := bool_of (ds[i] = ds'[j])
  have HA : Hid (∀ u : World, Below w2.heap.size w2 u → Calls Tryz.prog 56 #[.agg #[.string ts[i].name, .slice c1 ts[i].cols.length p1, .slice c2 ts[i].keys.length p2], .agg #[.string ts'[j].name, .slice c1' ts'[j].cols.length p1', .slice c2' ts'[j].keys.length p2']] u fun e w' => e = .returned (.bool qa) ∧ Below u.heap.size u w') := fun u hu => (same_spec _ _ ts[i] ts'[j] u (hxt.on hu) (hxt'.on hu) (HF.out.1 _ (List.getElem_mem hi)) (HF.out.2 _ (List.getElem_mem hj))).mono fun e w' ⟨q, g1, g2, g3⟩ => ⟨by rw [g1, Bool.eq_iff_iff.2 (g2.trans hqa.symm)], g3⟩
  have HB' : Hid (∀ u : World, Below w2.heap.size w2 u → Calls Tryz.prog 57 #[.slice c3 ds[i].length p3, .slice c3' ds'[j].length p3'] u fun e w' => e = .returned (.bool qb) ∧ Below u.heap.size u w') := fun u hu => (sameRows_spec _ _ ds[i] ds'[j] u (hr.on hu) (hr'.on hu)).mono fun e w' ⟨q, g1, g2, g3⟩ => ⟨by rw [g1, Bool.eq_iff_iff.2 (g2.trans hqb.symm)], g3⟩
  have HI : Hid (isSame ts ds ts' ds' s ↔ (qa = true ∧ qb = true)) := by
    show _ ↔ _
    rw [hqa, hqb]
    constructor
    · rintro ⟨i', j', e1, e2, _, _, _, _, g1, g2⟩
      obtain rfl : i = i' := by rw [h1] at e1; omega
      obtain rfl : j = j' := by rw [h2] at e2; omega
      exact ⟨g1, g2⟩
    · rintro ⟨g1, g2⟩
      exact ⟨i, j, h1, h2, hi, hj, hid, hjd, g1, g2⟩
  rw [h1, h2]
  clear hqa hqb hxt hxt' hr hr' h1 h2
  cases qa
  · go_wp2_with fail
    refine region_grown (by kernel_rfl) (by kernel_rfl) ?_
    repeat (go_big_quiet_step (first | (intro hu; go_at_call 56; exact hu.call (HA.out _ hu)) | (intro hu; go_at_call 57; exact hu.call (HB'.out _ hu)) | (intro hu; have n0 := hu.cell l0; have n1 := hu.cell l1; have n2 := hu.cell m0; have n3 := hu.cell m1; have n4 := hu.cell t0; have n5 := hu.cell t1; have n6 := hu.cell t2; have n7 := hu.cell t0'; have n8 := hu.cell t1'; have n9 := hu.cell t2'; have na := hu.cell f0; have nb := hu.cell f0'; go_simp; (try exact rfl))))
    refine wpQuiet_nil ?_
    intro w4 b4
    have b4 : Below w2.heap.size w2 w4 := b4
    go_wp2
    go_ret
    exact ⟨_, rfl, by rw [HI.out]; simp, ch_trans hb2 b4⟩
  cases qb
  · go_wp2_with fail
    refine region_grown (by kernel_rfl) (by kernel_rfl) ?_
    repeat (go_big_quiet_step (first | (intro hu; go_at_call 56; exact hu.call (HA.out _ hu)) | (intro hu; go_at_call 57; exact hu.call (HB'.out _ hu)) | (intro hu; have n0 := hu.cell l0; have n1 := hu.cell l1; have n2 := hu.cell m0; have n3 := hu.cell m1; have n4 := hu.cell t0; have n5 := hu.cell t1; have n6 := hu.cell t2; have n7 := hu.cell t0'; have n8 := hu.cell t1'; have n9 := hu.cell t2'; have na := hu.cell f0; have nb := hu.cell f0'; go_simp; (try exact rfl))))
    refine wpQuiet_nil ?_
    intro w4 b4
    have b4 : Below w2.heap.size w2 w4 := b4
    go_wp2
    go_ret
    exact ⟨_, rfl, by rw [HI.out]; simp, ch_trans hb2 b4⟩
  · go_wp2_with fail
    refine region_grown (by kernel_rfl) (by kernel_rfl) ?_
    repeat (go_big_quiet_step (first | (intro hu; go_at_call 56; exact hu.call (HA.out _ hu)) | (intro hu; go_at_call 57; exact hu.call (HB'.out _ hu)) | (intro hu; have n0 := hu.cell l0; have n1 := hu.cell l1; have n2 := hu.cell m0; have n3 := hu.cell m1; have n4 := hu.cell t0; have n5 := hu.cell t1; have n6 := hu.cell t2; have n7 := hu.cell t0'; have n8 := hu.cell t1'; have n9 := hu.cell t2'; have na := hu.cell f0; have nb := hu.cell f0'; go_simp; (try exact rfl))))
    refine wpQuiet_nil ?_
    intro w4 b4
    have b4 : Below w2.heap.size w2 w4 := b4
    go_wp2
    go_ret
    exact ⟨_, rfl, by rw [HI.out]; simp, ch_trans hb2 b4⟩

set_option maxRecDepth 100000 in
set_option maxHeartbeats 4000000 in
/-- impl.sameIn -/
theorem sameIn_any (cv dv cv' dv' : Value) (ts ts' : List Tc) (ds ds' : List (List (List Vc))) (s : ByteArray) (w : World) (hc : TabsV w cv ts) (hd : DataV w dv ds) (hc' : TabsV w cv' ts') (hd' : DataV w dv' ds') (hf : fits ts) (hf' : fits ts') (hr : dbRight ts ds) (hr' : dbRight ts' ds') :
    Calls Tryz.prog 28 #[.agg #[cv, dv], .agg #[cv', dv'], .string s] w fun e w' => ∃ q : Bool, e = .returned (.bool q) ∧ (q = true ↔ isSame ts ds ts' ds' s) ∧ Below w.heap.size w w' := by
  obtain ⟨a, p, rfl, hl, hm⟩ := hc.lit
  obtain ⟨b, q, rfl, hl2, hm2, _⟩ := hd.lit
  obtain ⟨a', p', rfl, hl', hm'⟩ := hc'.lit
  obtain ⟨b', q', rfl, hl2', hm2', _⟩ := hd'.lit
  unfold maxLen at hm hm2 hm' hm2'
  have HC : Hid (TabsV w (.slice a ts.length p) ts) := hc
  have HD : Hid (DataV w (.slice b ds.length q) ds) := hd
  have HC' : Hid (TabsV w (.slice a' ts'.length p') ts') := hc'
  have HD' : Hid (DataV w (.slice b' ds'.length q') ds') := hd'
  have HF : Hid (fits ts ∧ fits ts') := ⟨hf, hf'⟩
  have HLN : Hid (ds.length = ts.length ∧ ds'.length = ts'.length) := ⟨hr.2.1, hr'.2.1⟩
  have HCR : Hid (catRight ts ∧ catRight ts') := ⟨hr.1, hr'.1⟩
  have HL := Loc.new w #[.slice a ts.length p, .slice b ds.length q] 36
  have HL2 := Loc.new (w.alloc (.cells #[.slice a ts.length p, .slice b ds.length q] 36)) #[.slice a' ts'.length p', .slice b' ds'.length q'] 36
  rw [show (w.alloc (.cells #[.slice a ts.length p, .slice b ds.length q] 36)).heap.size = w.heap.size + 1 from by simp] at HL2
  have HLb := HL.on (ch_alloc (Below.refl _ _) (.cells #[.slice a' ts'.length p', .slice b' ds'.length q'] 36))
  have hbv : Below w.heap.size w ((w.alloc (.cells #[.slice a ts.length p, .slice b ds.length q] 36)).alloc (.cells #[.slice a' ts'.length p', .slice b' ds'.length q'] 36)) := (by repeat (first | with_reducible exact Below.refl _ _ | with_reducible assumption | with_reducible refine ch_alloc ?_ _ | with_reducible refine Below.drew ?_ | with_reducible refine below_draws _ ?_ | (with_reducible refine Below.setCell ?_ ?_ _; rotate_left; focus (first | with_reducible exact Nat.le_refl _ | (simp; done) | (simp; omega) | (simp at *; omega))) | with_reducible refine ch_trans ?_ (by with_reducible assumption)))
  clear hc hd hc' hd' hf hf' hr hr' HL
  obtain ⟨l0, l1⟩ := HLb.two
  obtain ⟨m0, m1⟩ := HL2.two
  go_enter Tryz.func28, Tryz.ntmps28
  go_wp2_with fail
  refine (tablePlace_any _ ts s _ (HC.out.on hbv)).mono ?_
  rintro e w1 ⟨i, qi, rfl, b1, hk, g1, g2, g3⟩
  have HP : Hid ((qi = true ∧ i < ts.length ∧ tabAt ts s = i) ∨ (qi = false ∧ tabAt ts s = -1)) := place_at HCR.out.1 hk g1 g2 g3
  clear g1 g2 g3
  have HLc := HLb.on b1
  have HL3 := HL2.on b1
  have hb1 := ch_trans hbv b1
  clear b1 hbv HLb HL2 l0 l1 m0 m1
  obtain ⟨l0, l1⟩ := HLc.two
  obtain ⟨m0, m1⟩ := HL3.two
  go_wp2_with fail
  refine (tablePlace_any _ ts' s _ (HC'.out.on hb1)).mono ?_
  rintro e w2 ⟨j, qj, rfl, b2, hk', g1, g2, g3⟩
  have HP' : Hid ((qj = true ∧ j < ts'.length ∧ tabAt ts' s = j) ∨ (qj = false ∧ tabAt ts' s = -1)) := place_at HCR.out.2 hk' g1 g2 g3
  clear g1 g2 g3
  have HLd := HLc.on b2
  have HL4 := HL3.on b2
  have hb2 := ch_trans hb1 b2
  clear b2 hb1 HLc HL3 l0 l1 m0 m1
  obtain ⟨l0, l1⟩ := HLd.two
  obtain ⟨m0, m1⟩ := HL4.two
  rcases HP.out with ⟨rfl, hi, h1⟩ | ⟨rfl, h1⟩
  rotate_left
  · have HN : Hid (¬ isSame ts ds ts' ds' s) := fun ⟨i, j, e, _⟩ => by rw [h1] at e; omega
    clear h1 HP HP'
    go_wp2_with fail
    refine region_grown (by kernel_rfl) (by kernel_rfl) ?_
    repeat (go_big_quiet_step ((intro hu; have n0 := hu.cell l0; have n1 := hu.cell l1; have n2 := hu.cell m0; have n3 := hu.cell m1; go_simp; (try exact rfl))))
    refine wpQuiet_nil ?_
    intro w4 b4
    have b4 : Below w2.heap.size w2 w4 := b4
    go_wp2
    go_ret
    exact ⟨_, rfl, ⟨fun h => by simp at h, fun h => absurd h HN.out⟩, ch_trans hb2 b4⟩
  rcases HP'.out with ⟨rfl, hj, h2⟩ | ⟨rfl, h2⟩
  rotate_left
  · have HN : Hid (¬ isSame ts ds ts' ds' s) := fun ⟨i, j, _, e, _⟩ => by rw [h2] at e; omega
    clear h1 h2 HP HP'
    go_wp2_with fail
    refine region_grown (by kernel_rfl) (by kernel_rfl) ?_
    repeat (go_big_quiet_step ((intro hu; have n0 := hu.cell l0; have n1 := hu.cell l1; have n2 := hu.cell m0; have n3 := hu.cell m1; go_simp; (try exact rfl))))
    refine wpQuiet_nil ?_
    intro w4 b4
    have b4 : Below w2.heap.size w2 w4 := b4
    go_wp2
    go_ret
    exact ⟨_, rfl, ⟨fun h => by simp at h, fun h => absurd h HN.out⟩, ch_trans hb2 b4⟩
  have hid : i < ds.length := by rw [HLN.out.1]; exact hi
  have hjd : j < ds'.length := by rw [HLN.out.2]; exact hj
  have hii : (i : Int) < ts.length := by omega
  have hji : (j : Int) < ts'.length := by omega
  have hidi : (i : Int) < ds.length := by omega
  have hjdi : (j : Int) < ds'.length := by omega
  obtain ⟨bt, offt, c1, p1, c2, p2, rfl, t0, t1, t2, hxt⟩ := (HC.out.on hb2).tab i hi
  obtain ⟨bt', offt', c1', p1', c2', p2', rfl, t0', t1', t2', hxt'⟩ := (HC'.out.on hb2).tab j hj
  obtain ⟨bd, offd, c3, p3, rfl, f0, hr⟩ := (HD.out.on hb2).rw i hid
  obtain ⟨bd', offd', c3', p3', rfl, f0', hr'⟩ := (HD'.out.on hb2).rw j hjd
  obtain ⟨qa, hqa⟩ := bool_of (sameT ts[i] ts'[j])
  obtain ⟨qb, hqb⟩ := bool_of (ds[i] = ds'[j])
  have HA : Hid (∀ u : World, Below w2.heap.size w2 u → Calls Tryz.prog 66 #[.agg #[.string ts[i].name, .slice c1 ts[i].cols.length p1, .slice c2 ts[i].keys.length p2], .agg #[.string ts'[j].name, .slice c1' ts'[j].cols.length p1', .slice c2' ts'[j].keys.length p2']] u fun e w' => e = .returned (.bool qa) ∧ Below u.heap.size u w') := fun u hu => (same_impl _ _ ts[i] ts'[j] u (hxt.on hu) (hxt'.on hu) (HF.out.1 _ (List.getElem_mem hi)) (HF.out.2 _ (List.getElem_mem hj))).mono fun e w' ⟨q, g1, g2, g3⟩ => ⟨by rw [g1, Bool.eq_iff_iff.2 (g2.trans hqa.symm)], g3⟩
  have HB' : Hid (∀ u : World, Below w2.heap.size w2 u → Calls Tryz.prog 67 #[.agg #[.slice c3 ds[i].length p3], .agg #[.slice c3' ds'[j].length p3']] u fun e w' => e = .returned (.bool qb) ∧ Below u.heap.size u w') := fun u hu => (sameData_impl _ _ ds[i] ds'[j] u (hr.on hu) (hr'.on hu)).mono fun e w' ⟨q, g1, g2, g3⟩ => ⟨by rw [g1, Bool.eq_iff_iff.2 (g2.trans hqb.symm)], g3⟩
  have HI : Hid (isSame ts ds ts' ds' s ↔ (qa = true ∧ qb = true)) := by
    show _ ↔ _
    rw [hqa, hqb]
    constructor
    · rintro ⟨i', j', e1, e2, _, _, _, _, g1, g2⟩
      obtain rfl : i = i' := by rw [h1] at e1; omega
      obtain rfl : j = j' := by rw [h2] at e2; omega
      exact ⟨g1, g2⟩
    · rintro ⟨g1, g2⟩
      exact ⟨i, j, h1, h2, hi, hj, hid, hjd, g1, g2⟩
  clear hqa hqb hxt hxt' hr hr' h1 h2 HP HP'
  cases qa
  · go_wp2_with fail
    refine region_grown (by kernel_rfl) (by kernel_rfl) ?_
    repeat (go_big_quiet_step (first | (intro hu; go_at_call 66; exact hu.call (HA.out _ hu)) | (intro hu; go_at_call 67; exact hu.call (HB'.out _ hu)) | (intro hu; have n0 := hu.cell l0; have n1 := hu.cell l1; have n2 := hu.cell m0; have n3 := hu.cell m1; have n4 := hu.cell t0; have n5 := hu.cell t1; have n6 := hu.cell t2; have n7 := hu.cell t0'; have n8 := hu.cell t1'; have n9 := hu.cell t2'; have na := hu.cell f0; have nb := hu.cell f0'; go_simp; (try exact rfl))))
    refine wpQuiet_nil ?_
    intro w4 b4
    have b4 : Below w2.heap.size w2 w4 := b4
    go_wp2
    go_ret
    exact ⟨_, rfl, by rw [HI.out]; simp, ch_trans hb2 b4⟩
  cases qb
  · go_wp2_with fail
    refine region_grown (by kernel_rfl) (by kernel_rfl) ?_
    repeat (go_big_quiet_step (first | (intro hu; go_at_call 66; exact hu.call (HA.out _ hu)) | (intro hu; go_at_call 67; exact hu.call (HB'.out _ hu)) | (intro hu; have n0 := hu.cell l0; have n1 := hu.cell l1; have n2 := hu.cell m0; have n3 := hu.cell m1; have n4 := hu.cell t0; have n5 := hu.cell t1; have n6 := hu.cell t2; have n7 := hu.cell t0'; have n8 := hu.cell t1'; have n9 := hu.cell t2'; have na := hu.cell f0; have nb := hu.cell f0'; go_simp; (try exact rfl))))
    refine wpQuiet_nil ?_
    intro w4 b4
    have b4 : Below w2.heap.size w2 w4 := b4
    go_wp2
    go_ret
    exact ⟨_, rfl, by rw [HI.out]; simp, ch_trans hb2 b4⟩
  · go_wp2_with fail
    refine region_grown (by kernel_rfl) (by kernel_rfl) ?_
    repeat (go_big_quiet_step (first | (intro hu; go_at_call 66; exact hu.call (HA.out _ hu)) | (intro hu; go_at_call 67; exact hu.call (HB'.out _ hu)) | (intro hu; have n0 := hu.cell l0; have n1 := hu.cell l1; have n2 := hu.cell m0; have n3 := hu.cell m1; have n4 := hu.cell t0; have n5 := hu.cell t1; have n6 := hu.cell t2; have n7 := hu.cell t0'; have n8 := hu.cell t1'; have n9 := hu.cell t2'; have na := hu.cell f0; have nb := hu.cell f0'; go_simp; (try exact rfl))))
    refine wpQuiet_nil ?_
    intro w4 b4
    have b4 : Below w2.heap.size w2 w4 := b4
    go_wp2
    go_ret
    exact ⟨_, rfl, by rw [HI.out]; simp, ch_trans hb2 b4⟩
end Go.Proofs.YtihilcffmdjhhalGreat
