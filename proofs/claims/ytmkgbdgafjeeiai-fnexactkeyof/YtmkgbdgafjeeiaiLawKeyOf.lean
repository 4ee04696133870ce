/- For every table and every row the landed KeyOf answers as the given one does, leaves both as they were, and its answer shares no memory: 'FnExactKeyOf' returns true at all arguments, with no condition; its arguments read afterwards as they read before. -/
import Derived.Test.YtmkgbdgafjeeiaiKoI
import Derived.Test.YtmkgbdgafjeeiaiMarkG
import Derived.Test.YtmkgbdgafjeeiaiOpenT
import Derived.Test.YtmkgbdgafjeeiaiOpenR
import Derived.Deep.RegionWith
import Derived.Deep.DeepCutAuto
namespace Go.Proofs.Ytmkgbdgafjeeiai.lawKeyOf
open Go.ChangeShapes Go.WideShapes Go.ChangeAt Go.RowKit

set_option maxRecDepth 100000 in
set_option maxHeartbeats 2000000 in
theorem walk (x : Array Value) (y : Value) (t : Tc) (vs : List Vc) (w : World) (hx : TabV w x t) (hy : ValsV w y vs) (hfs : t.fit) (hft : vfit vs) :
    Calls Try.prog 5 #[.agg x, .agg #[y]] w fun e w' => e = .returned (.bool true) ∧ Below w.heap.size w w' := by
  obtain ⟨a, p, o, z, rfl, hx, _, _⟩ := hx.lit
  obtain ⟨b, q, rfl, _, _, hy⟩ := hy.lit
  have HX : Hid (TabV w #[.string t.name, .slice a t.cols.length p, .slice o t.keys.length z] t) := hx
  have HY : Hid (ValsV w (.slice b vs.length q) vs) := hy
  have HF : Hid (t.fit ∧ vfit vs) := ⟨hfs, hft⟩
  have HL := Loc.new w #[.string t.name, .slice a t.cols.length p, .slice o t.keys.length z] 25
  have HM := Loc.new (w.alloc (.cells #[.string t.name, .slice a t.cols.length p, .slice o t.keys.length z] 25)) #[.slice b vs.length q] 35
  rw [show (w.alloc (.cells #[.string t.name, .slice a t.cols.length p, .slice o t.keys.length z] 25)).heap.size = w.heap.size + 1 from by simp] at HM
  clear hx hy hfs hft
  go_enter Try.func5, Try.ntmps5
  go_wp2_with fail
  refine (szTable_any _ t _ _ (HX.out.on (w' := ((w.alloc (.cells #[.string t.name, .slice a t.cols.length p, .slice o t.keys.length z] 25)).alloc (.cells #[.slice b vs.length q] 35))) (by repeat (first | with_reducible exact Below.refl _ _ | with_reducible assumption | with_reducible refine ch_alloc ?_ _ | with_reducible refine Below.drew ?_ | with_reducible refine below_draws _ ?_ | (with_reducible refine Below.setCell ?_ ?_ _; rotate_left; focus (first | with_reducible exact Nat.le_refl _ | (simp; done) | (simp; omega) | (simp at *; omega))) | with_reducible refine ch_trans ?_ (by with_reducible assumption)))) HF.out.1 (by omega) (by omega)).mono ?_
  rintro e w1 ⟨r, rfl, b1, hr⟩
  have HL1 := HL.on (w' := w1) (by repeat (first | with_reducible exact Below.refl _ _ | with_reducible assumption | with_reducible refine ch_alloc ?_ _ | with_reducible refine Below.drew ?_ | with_reducible refine below_draws _ ?_ | (with_reducible refine Below.setCell ?_ ?_ _; rotate_left; focus (first | with_reducible exact Nat.le_refl _ | (simp; done) | (simp; omega) | (simp at *; omega))) | with_reducible refine ch_trans ?_ (by with_reducible assumption)))
  have HM1 := HM.on (w' := w1) (by repeat (first | with_reducible exact Below.refl _ _ | with_reducible assumption | with_reducible refine ch_alloc ?_ _ | with_reducible refine Below.drew ?_ | with_reducible refine below_draws _ ?_ | (with_reducible refine Below.setCell ?_ ?_ _; rotate_left; focus (first | with_reducible exact Nat.le_refl _ | (simp; done) | (simp; omega) | (simp at *; omega))) | with_reducible refine ch_trans ?_ (by with_reducible assumption)))
  obtain ⟨c0, c1, c2⟩ := HL1.three
  have d0 := HM1.one
  rcases hr with rfl | ⟨r0, r1, fews⟩
  · go_wp2
    go_ret
    exact ⟨rfl, (by repeat (first | with_reducible exact Below.refl _ _ | with_reducible assumption | with_reducible refine ch_alloc ?_ _ | with_reducible refine Below.drew ?_ | with_reducible refine below_draws _ ?_ | (with_reducible refine Below.setCell ?_ ?_ _; rotate_left; focus (first | with_reducible exact Nat.le_refl _ | (simp; done) | (simp; omega) | (simp at *; omega))) | with_reducible refine ch_trans ?_ (by with_reducible assumption)))⟩
  go_wp2_with fail
  refine (szRow_any _ vs r _ (HY.out.on (w' := w1) (by repeat (first | with_reducible exact Below.refl _ _ | with_reducible assumption | with_reducible refine ch_alloc ?_ _ | with_reducible refine Below.drew ?_ | with_reducible refine below_draws _ ?_ | (with_reducible refine Below.setCell ?_ ?_ _; rotate_left; focus (first | with_reducible exact Nat.le_refl _ | (simp; done) | (simp; omega) | (simp at *; omega))) | with_reducible refine ch_trans ?_ (by with_reducible assumption)))) HF.out.2 (by omega) (by omega)).mono ?_
  rintro e w2 ⟨r', rfl, b2, hr'⟩
  have HL2 := HL1.on b2
  have HM2 := HM1.on b2
  clear c0 c1 c2 d0
  obtain ⟨c0, c1, c2⟩ := HL2.three
  have d0 := HM2.one
  rcases hr' with rfl | ⟨r0', r1', fewt⟩
  · go_wp2
    go_ret
    exact ⟨rfl, (by repeat (first | with_reducible exact Below.refl _ _ | with_reducible assumption | with_reducible refine ch_alloc ?_ _ | with_reducible refine Below.drew ?_ | with_reducible refine below_draws _ ?_ | (with_reducible refine Below.setCell ?_ ?_ _; rotate_left; focus (first | with_reducible exact Nat.le_refl _ | (simp; done) | (simp; omega) | (simp at *; omega))) | with_reducible refine ch_trans ?_ (by with_reducible assumption)))⟩
  obtain ⟨ks, hks⟩ : ∃ ks : List Vc, (rowRight t vs ∧ ks = keyVals t vs) ∨ (¬ rowRight t vs ∧ ks = []) := by
    by_cases h : rowRight t vs
    · exact ⟨_, Or.inl ⟨h, rfl⟩⟩
    · exact ⟨_, Or.inr ⟨h, rfl⟩⟩
  have hkl : ks.length ≤ 1048576 := by
    rcases hks with ⟨h, rfl⟩ | ⟨_, rfl⟩
    · have h1 := right_keys h.1
      have h2 := h.1.2.2.1
      simp only [keyVals, valsAt, Tc.places, List.length_map]; omega
    · simp
  have HKS : Hid ((rowRight t vs ∧ ks = keyVals t vs) ∨ (¬ rowRight t vs ∧ ks = [])) := hks
  have hmt : vs.length ≤ maxLen := by unfold maxLen; omega
  have hmc : t.cols.length ≤ maxLen := by have := fews.1; unfold maxLen; omega
  have hmk : t.keys.length ≤ maxLen := by have := fews.2; unfold maxLen; omega
  have hfc := fews.1
  have hfk := fews.2
  clear hks
  have HSS : Hid (∀ (u : World) (X : Array Value) (Y : Value), TabV u X t → ValsV u Y vs → Calls Try.prog 18 #[.agg X, .agg #[Y]] u fun e w' => ∃ kv, e = .returned kv ∧ Below u.heap.size u w' ∧ Got w' u.heap.size 58 3 kv (ks.map Vc.cells)) := fun u X Y h1 h2 => keyOf_spec X t Y vs u h1 h2 HF.out.1 ks HKS.out
  have HSI : Hid (∀ (u : World) (X : Array Value) (Y : Value), TabV u X t → ValsV u Y vs → Calls Try.prog 19 #[.agg X, .agg #[Y]] u fun e w' => ∃ kv, e = .returned kv ∧ Below u.heap.size u w' ∧ Got w' u.heap.size 58 3 kv (ks.map Vc.cells)) := fun u X Y h1 h2 => keyOf_impl X t Y vs u h1 h2 HF.out.1 ks HKS.out
  have HTR : Hid (∀ u : World, ValsV u (.slice b vs.length q) vs → Calls Try.prog 15 #[.agg #[.slice b vs.length q]] u fun e w' => ∃ B, e = .returned (.agg #[.slice (some ⟨B, 0, none⟩) vs.length vs.length]) ∧ u.heap.size ≤ B ∧ Below u.heap.size u w' ∧ Fill w' B 58 3 vs.length (vs.map Vc.cells)) := fun u hu => toRow_any _ vs u hu fewt
  have hbw2 : Below w.heap.size w w2 := (by repeat (first | with_reducible exact Below.refl _ _ | with_reducible assumption | with_reducible refine ch_alloc ?_ _ | with_reducible refine Below.drew ?_ | with_reducible refine below_draws _ ?_ | (with_reducible refine Below.setCell ?_ ?_ _; rotate_left; focus (first | with_reducible exact Nat.le_refl _ | (simp; done) | (simp; omega) | (simp at *; omega))) | with_reducible refine ch_trans ?_ (by with_reducible assumption)))
  clear b1 b2
  go_upto_region 8 with fail
  go_cut [6] (fun v wx => Hid (Below w2.heap.size w2 wx ∧ Got wx w2.heap.size 58 3 v (ks.map Vc.cells)))
  case first =>
    go_region_with (first
      | (go_at_call 10; refine (toTable_any #[.string t.name, .slice a t.cols.length p, .slice o t.keys.length z] t _ (HX.out.on (by repeat (first | with_reducible exact Below.refl _ _ | with_reducible assumption | with_reducible refine ch_alloc ?_ _ | with_reducible refine Below.drew ?_ | with_reducible refine below_draws _ ?_ | (with_reducible refine Below.setCell ?_ ?_ _; rotate_left; focus (first | with_reducible exact Nat.le_refl _ | (simp; done) | (simp; omega) | (simp at *; omega))) | with_reducible refine ch_trans ?_ (by with_reducible assumption)))) fews).mono ?_; rintro e w3 ⟨y, rfl, b3, hy, _⟩; have HYA : Hid (TabV w3 y t) := hy; clear hy; have HM3 := HM2.on (w' := w3) (by repeat (first | with_reducible exact Below.refl _ _ | with_reducible assumption | with_reducible refine ch_alloc ?_ _ | with_reducible refine Below.drew ?_ | with_reducible refine below_draws _ ?_ | (with_reducible refine Below.setCell ?_ ?_ _; rotate_left; focus (first | with_reducible exact Nat.le_refl _ | (simp; done) | (simp; omega) | (simp at *; omega))) | with_reducible refine ch_trans ?_ (by with_reducible assumption))); have f0 := HM3.one)
      | (go_at_call 15; refine (HTR.out _ (HY.out.on (by repeat (first | with_reducible exact Below.refl _ _ | with_reducible assumption | with_reducible refine ch_alloc ?_ _ | with_reducible refine Below.drew ?_ | with_reducible refine below_draws _ ?_ | (with_reducible refine Below.setCell ?_ ?_ _; rotate_left; focus (first | with_reducible exact Nat.le_refl _ | (simp; done) | (simp; omega) | (simp at *; omega))) | with_reducible refine ch_trans ?_ (by with_reducible assumption))))).mono ?_; rintro e w4 ⟨c, rfl, _, b4, hz⟩; have HZB : Hid (ValsV w4 (.slice (some ⟨c, 0, none⟩) vs.length vs.length) vs) := hz.valsV hmt; clear hz)
      | (go_at_call 18; refine (HSS.out _ _ _ (HYA.out.on (by repeat (first | with_reducible exact Below.refl _ _ | with_reducible assumption | with_reducible refine ch_alloc ?_ _ | with_reducible refine Below.drew ?_ | with_reducible refine below_draws _ ?_ | (with_reducible refine Below.setCell ?_ ?_ _; rotate_left; focus (first | with_reducible exact Nat.le_refl _ | (simp; done) | (simp; omega) | (simp at *; omega))) | with_reducible refine ch_trans ?_ (by with_reducible assumption)))) (HZB.out.on (by repeat (first | with_reducible exact Below.refl _ _ | with_reducible assumption | with_reducible refine ch_alloc ?_ _ | with_reducible refine Below.drew ?_ | with_reducible refine below_draws _ ?_ | (with_reducible refine Below.setCell ?_ ?_ _; rotate_left; focus (first | with_reducible exact Nat.le_refl _ | (simp; done) | (simp; omega) | (simp at *; omega))) | with_reducible refine ch_trans ?_ (by with_reducible assumption))))).mono ?_; rintro e w5 ⟨kv0, rfl, b5, hg0⟩; have HG0 : Hid (Got w5 w4.heap.size 58 3 kv0 (ks.map Vc.cells)) := hg0; clear hg0))
    all_goals
      have hsz4 : w2.heap.size ≤ w4.heap.size := (show Below w2.heap.size w2 w4 from (by repeat (first | with_reducible exact Below.refl _ _ | with_reducible assumption | with_reducible refine ch_alloc ?_ _ | with_reducible refine Below.drew ?_ | with_reducible refine below_draws _ ?_ | (with_reducible refine Below.setCell ?_ ?_ _; rotate_left; focus (first | with_reducible exact Nat.le_refl _ | (simp; done) | (simp; omega) | (simp at *; omega))) | with_reducible refine ch_trans ?_ (by with_reducible assumption)))).size
      have HQ : Hid (Below w2.heap.size w2 w5 ∧ Got w5 w2.heap.size 58 3 kv0 (ks.map Vc.cells)) := ⟨(by repeat (first | with_reducible exact Below.refl _ _ | with_reducible assumption | with_reducible refine ch_alloc ?_ _ | with_reducible refine Below.drew ?_ | with_reducible refine below_draws _ ?_ | (with_reducible refine Below.setCell ?_ ?_ _; rotate_left; focus (first | with_reducible exact Nat.le_refl _ | (simp; done) | (simp; omega) | (simp at *; omega))) | with_reducible refine ch_trans ?_ (by with_reducible assumption))), HG0.out.mono hsz4⟩
      go_wp2_with fail
      go_meet
      exact HQ
  case rest =>
    obtain ⟨wd, hwd⟩ : ∃ wd, wd = wc := ⟨_, rfl⟩
    subst hwd
    obtain ⟨a0, n0, e0, rfl, hg0⟩ := hcut.out.2.lit2
    have hb0 := hcut.out.1
    have HG0 : Hid (Got wd w2.heap.size 58 3 (.slice a0 n0 e0) (ks.map Vc.cells)) := hg0
    clear hcut hg0
    have HL3 := HL2.on hb0
    have HM3 := HM2.on hb0
    clear c0 c1 c2 d0
    obtain ⟨c0, c1, c2⟩ := HL3.three
    have d0 := HM3.one
    go_wp2_with fail
    refine (toTable_full _ t _ (HX.out.on (w' := wd) (by repeat (first | with_reducible exact Below.refl _ _ | with_reducible assumption | with_reducible refine ch_alloc ?_ _ | with_reducible refine Below.drew ?_ | with_reducible refine below_draws _ ?_ | (with_reducible refine Below.setCell ?_ ?_ _; rotate_left; focus (first | with_reducible exact Nat.le_refl _ | (simp; done) | (simp; omega) | (simp at *; omega))) | with_reducible refine ch_trans ?_ (by with_reducible assumption)))) fews).mono ?_
    rintro e w4 ⟨B1, B2, rfl, hB1, hB2, b4, hf1, hf2⟩
    have HF1 : Hid (Fill w4 B1 60 7 t.cols.length (t.cols.map Cl.cells) ∧ Fill w4 B2 9 1 t.keys.length (t.keys.map strX)) := ⟨hf1, hf2⟩
    have hlt2 : B2 < w4.heap.size := hf2.lt
    have HL4 := HL3.on b4
    have HM4 := HM3.on b4
    have HN4 := Loc.new w4 #[.string t.name, .slice (some ⟨B1, 0, none⟩) t.cols.length t.cols.length, .slice (some ⟨B2, 0, none⟩) t.keys.length t.keys.length] 30
    clear c0 c1 c2 d0 hf1 hf2
    have HM4' := HM4.on1 (.cells #[.string t.name, .slice (some ⟨B1, 0, none⟩) t.cols.length t.cols.length, .slice (some ⟨B2, 0, none⟩) t.keys.length t.keys.length] 30)
    have d0 := HM4'.one
    go_wp2_with fail
    refine (HTR.out _ (HY.out.on (w' := w4.alloc (.cells #[.string t.name, .slice (some ⟨B1, 0, none⟩) t.cols.length t.cols.length, .slice (some ⟨B2, 0, none⟩) t.keys.length t.keys.length] 30)) (by repeat (first | with_reducible exact Below.refl _ _ | with_reducible assumption | with_reducible refine ch_alloc ?_ _ | with_reducible refine Below.drew ?_ | with_reducible refine below_draws _ ?_ | (with_reducible refine Below.setCell ?_ ?_ _; rotate_left; focus (first | with_reducible exact Nat.le_refl _ | (simp; done) | (simp; omega) | (simp at *; omega))) | with_reducible refine ch_trans ?_ (by with_reducible assumption))))).mono ?_
    rintro e w5 ⟨B3, rfl, hB3, b5, hf3⟩
    have hB3' : w4.heap.size + 1 ≤ B3 := by simpa using hB3
    have HF3 : Hid (Fill w5 B3 58 3 vs.length (vs.map Vc.cells)) := hf3
    have hlt3 : B3 < w5.heap.size := hf3.lt
    have HL5 := HL4.on (w' := w5) (by repeat (first | with_reducible exact Below.refl _ _ | with_reducible assumption | with_reducible refine ch_alloc ?_ _ | with_reducible refine Below.drew ?_ | with_reducible refine below_draws _ ?_ | (with_reducible refine Below.setCell ?_ ?_ _; rotate_left; focus (first | with_reducible exact Nat.le_refl _ | (simp; done) | (simp; omega) | (simp at *; omega))) | with_reducible refine ch_trans ?_ (by with_reducible assumption)))
    have HM5 := HM4.on (w' := w5) (by repeat (first | with_reducible exact Below.refl _ _ | with_reducible assumption | with_reducible refine ch_alloc ?_ _ | with_reducible refine Below.drew ?_ | with_reducible refine below_draws _ ?_ | (with_reducible refine Below.setCell ?_ ?_ _; rotate_left; focus (first | with_reducible exact Nat.le_refl _ | (simp; done) | (simp; omega) | (simp at *; omega))) | with_reducible refine ch_trans ?_ (by with_reducible assumption)))
    have HN5 := HN4.on (w' := w5) (by repeat (first | with_reducible exact Below.refl _ _ | with_reducible assumption | with_reducible refine ch_alloc ?_ _ | with_reducible refine Below.drew ?_ | with_reducible refine below_draws _ ?_ | (with_reducible refine Below.setCell ?_ ?_ _; rotate_left; focus (first | with_reducible exact Nat.le_refl _ | (simp; done) | (simp; omega) | (simp at *; omega))) | with_reducible refine ch_trans ?_ (by with_reducible assumption)))
    have HO5 := Loc.new w5 #[.slice (some ⟨B3, 0, none⟩) vs.length vs.length] 40
    clear d0 hf3 hB3
    have HN5' := HN5.on1 (.cells #[.slice (some ⟨B3, 0, none⟩) vs.length vs.length] 40)
    obtain ⟨n0', n1, n2⟩ := HN5'.three
    have HXV : Hid (∀ u : World, Below w4.heap.size w4 u → TabV u #[.string t.name, .slice (some ⟨B1, 0, none⟩) t.cols.length t.cols.length, .slice (some ⟨B2, 0, none⟩) t.keys.length t.keys.length] t) := fun u hu => ⟨_, _, rfl, (HF1.out.1.on hu).colsV hmc, (HF1.out.2.on hu).strsV hmk⟩
    go_wp2_with fail
    refine (HSI.out _ _ _ (HXV.out (w5.alloc (.cells #[.slice (some ⟨B3, 0, none⟩) vs.length vs.length] 40)) (by repeat (first | with_reducible exact Below.refl _ _ | with_reducible assumption | with_reducible refine ch_alloc ?_ _ | with_reducible refine Below.drew ?_ | with_reducible refine below_draws _ ?_ | (with_reducible refine Below.setCell ?_ ?_ _; rotate_left; focus (first | with_reducible exact Nat.le_refl _ | (simp; done) | (simp; omega) | (simp at *; omega))) | with_reducible refine ch_trans ?_ (by with_reducible assumption)))) ((HF3.out.on (w' := w5.alloc (.cells #[.slice (some ⟨B3, 0, none⟩) vs.length vs.length] 40)) (by repeat (first | with_reducible exact Below.refl _ _ | with_reducible assumption | with_reducible refine ch_alloc ?_ _ | with_reducible refine Below.drew ?_ | with_reducible refine below_draws _ ?_ | (with_reducible refine Below.setCell ?_ ?_ _; rotate_left; focus (first | with_reducible exact Nat.le_refl _ | (simp; done) | (simp; omega) | (simp at *; omega))) | with_reducible refine ch_trans ?_ (by with_reducible assumption)))).valsV hmt)).mono ?_
    rintro e w6 ⟨kv1, rfl, b6, hg1⟩
    obtain ⟨a1, m1, e1, rfl, hg1⟩ := hg1.lit2
    rw [show (w5.alloc (.cells #[.slice (some ⟨B3, 0, none⟩) vs.length vs.length] 40)).heap.size = w5.heap.size + 1 from by simp] at hg1
    have HG1 : Hid (Got w6 (w5.heap.size + 1) 58 3 (.slice a1 m1 e1) (ks.map Vc.cells)) := hg1
    have HL6 := HL5.on (w' := w6) (by repeat (first | with_reducible exact Below.refl _ _ | with_reducible assumption | with_reducible refine ch_alloc ?_ _ | with_reducible refine Below.drew ?_ | with_reducible refine below_draws _ ?_ | (with_reducible refine Below.setCell ?_ ?_ _; rotate_left; focus (first | with_reducible exact Nat.le_refl _ | (simp; done) | (simp; omega) | (simp at *; omega))) | with_reducible refine ch_trans ?_ (by with_reducible assumption)))
    have HM6 := HM5.on (w' := w6) (by repeat (first | with_reducible exact Below.refl _ _ | with_reducible assumption | with_reducible refine ch_alloc ?_ _ | with_reducible refine Below.drew ?_ | with_reducible refine below_draws _ ?_ | (with_reducible refine Below.setCell ?_ ?_ _; rotate_left; focus (first | with_reducible exact Nat.le_refl _ | (simp; done) | (simp; omega) | (simp at *; omega))) | with_reducible refine ch_trans ?_ (by with_reducible assumption)))
    have HN6 := HN5.on (w' := w6) (by repeat (first | with_reducible exact Below.refl _ _ | with_reducible assumption | with_reducible refine ch_alloc ?_ _ | with_reducible refine Below.drew ?_ | with_reducible refine below_draws _ ?_ | (with_reducible refine Below.setCell ?_ ?_ _; rotate_left; focus (first | with_reducible exact Nat.le_refl _ | (simp; done) | (simp; omega) | (simp at *; omega))) | with_reducible refine ch_trans ?_ (by with_reducible assumption)))
    have HO6 := HO5.on (w' := w6) (by repeat (first | with_reducible exact Below.refl _ _ | with_reducible assumption | with_reducible refine ch_alloc ?_ _ | with_reducible refine Below.drew ?_ | with_reducible refine below_draws _ ?_ | (with_reducible refine Below.setCell ?_ ?_ _; rotate_left; focus (first | with_reducible exact Nat.le_refl _ | (simp; done) | (simp; omega) | (simp at *; omega))) | with_reducible refine ch_trans ?_ (by with_reducible assumption)))
    have HG06 : Hid (Got w6 w2.heap.size 58 3 (.slice a0 n0 e0) (ks.map Vc.cells)) := HG0.out.on (by repeat (first | with_reducible exact Below.refl _ _ | with_reducible assumption | with_reducible refine ch_alloc ?_ _ | with_reducible refine Below.drew ?_ | with_reducible refine below_draws _ ?_ | (with_reducible refine Below.setCell ?_ ?_ _; rotate_left; focus (first | with_reducible exact Nat.le_refl _ | (simp; done) | (simp; omega) | (simp at *; omega))) | with_reducible refine ch_trans ?_ (by with_reducible assumption)))
    clear n0' n1 n2 hg1
    go_wp2_with fail
    refine (eqValS_same _ _ ks _ HG1.out.vals HG06.out.vals).mono ?_
    rintro e w7 ⟨rfl, b7⟩
    have HL7 := HL6.on b7
    have HM7 := HM6.on b7
    have HN7 := HN6.on b7
    have HO7 := HO6.on b7
    obtain ⟨c0, c1, c2⟩ := HL7.three
    obtain ⟨n0', n1, n2⟩ := HN7.three
    go_wp2_with fail
    go_cut [44] (fun v wx => v = .bool false ∧ Hid (Below w7.heap.size w7 wx))
    case first =>
      go_region_with (first
        | (go_at_call 10; refine (toTable_any #[.string t.name, .slice a t.cols.length p, .slice o t.keys.length z] t _ (HX.out.on (by repeat (first | with_reducible exact Below.refl _ _ | with_reducible assumption | with_reducible refine ch_alloc ?_ _ | with_reducible refine Below.drew ?_ | with_reducible refine below_draws _ ?_ | (with_reducible refine Below.setCell ?_ ?_ _; rotate_left; focus (first | with_reducible exact Nat.le_refl _ | (simp; done) | (simp; omega) | (simp at *; omega))) | with_reducible refine ch_trans ?_ (by with_reducible assumption)))) fews).mono ?_; rintro e w8 ⟨y, rfl, b8, hy, _⟩; have HN8 := HN7.on (w' := w8) (by repeat (first | with_reducible exact Below.refl _ _ | with_reducible assumption | with_reducible refine ch_alloc ?_ _ | with_reducible refine Below.drew ?_ | with_reducible refine below_draws _ ?_ | (with_reducible refine Below.setCell ?_ ?_ _; rotate_left; focus (first | with_reducible exact Nat.le_refl _ | (simp; done) | (simp; omega) | (simp at *; omega))) | with_reducible refine ch_trans ?_ (by with_reducible assumption))); obtain ⟨f0, f1, f2⟩ := HN8.three; have HYY : Hid (TabV w8 y t) := hy; clear hy)
        | (go_at_call 12; refine (eqTable_same _ _ t _ (HXV.out _ (by repeat (first | with_reducible exact Below.refl _ _ | with_reducible assumption | with_reducible refine ch_alloc ?_ _ | with_reducible refine Below.drew ?_ | with_reducible refine below_draws _ ?_ | (with_reducible refine Below.setCell ?_ ?_ _; rotate_left; focus (first | with_reducible exact Nat.le_refl _ | (simp; done) | (simp; omega) | (simp at *; omega))) | with_reducible refine ch_trans ?_ (by with_reducible assumption)))) (HYY.out.on (by repeat (first | with_reducible exact Below.refl _ _ | with_reducible assumption | with_reducible refine ch_alloc ?_ _ | with_reducible refine Below.drew ?_ | with_reducible refine below_draws _ ?_ | (with_reducible refine Below.setCell ?_ ?_ _; rotate_left; focus (first | with_reducible exact Nat.le_refl _ | (simp; done) | (simp; omega) | (simp at *; omega))) | with_reducible refine ch_trans ?_ (by with_reducible assumption))))).mono ?_; rintro e w9 ⟨rfl, b9⟩))
      all_goals
        have HQ : Hid (Below w7.heap.size w7 w9) := by show Below _ _ _; exact (by repeat (first | with_reducible exact Below.refl _ _ | with_reducible assumption | with_reducible refine ch_alloc ?_ _ | with_reducible refine Below.drew ?_ | with_reducible refine below_draws _ ?_ | (with_reducible refine Below.setCell ?_ ?_ _; rotate_left; focus (first | with_reducible exact Nat.le_refl _ | (simp; done) | (simp; omega) | (simp at *; omega))) | with_reducible refine ch_trans ?_ (by with_reducible assumption)))
        go_wp2_with fail
        go_meet
        exact ⟨rfl, HQ⟩
    case rest =>
      obtain ⟨w9, hw9⟩ : ∃ w9, w9 = wc := ⟨_, rfl⟩
      subst hw9
      obtain ⟨rfl, hcut⟩ := hcut
      have b9 := hcut.out
      clear hcut c0 c1 c2 n0' n1 n2
      have HL9 := HL7.on b9
      have HM9 := HM7.on b9
      have HN9 := HN7.on b9
      have HO9 := HO7.on b9
      have d0 := HM9.one
      have g0 := HO9.one
      go_wp2_with fail
      go_cut [49] (fun v wx => v = .bool false ∧ Hid (Below w9.heap.size w9 wx))
      case first =>
        go_region_with (first
          | (go_at_call 15; refine (HTR.out _ (HY.out.on (by repeat (first | with_reducible exact Below.refl _ _ | with_reducible assumption | with_reducible refine ch_alloc ?_ _ | with_reducible refine Below.drew ?_ | with_reducible refine below_draws _ ?_ | (with_reducible refine Below.setCell ?_ ?_ _; rotate_left; focus (first | with_reducible exact Nat.le_refl _ | (simp; done) | (simp; omega) | (simp at *; omega))) | with_reducible refine ch_trans ?_ (by with_reducible assumption))))).mono ?_; rintro e w10 ⟨c10, rfl, _, b10, hz⟩; have HO10 := HO9.on (w' := w10) (by repeat (first | with_reducible exact Below.refl _ _ | with_reducible assumption | with_reducible refine ch_alloc ?_ _ | with_reducible refine Below.drew ?_ | with_reducible refine below_draws _ ?_ | (with_reducible refine Below.setCell ?_ ?_ _; rotate_left; focus (first | with_reducible exact Nat.le_refl _ | (simp; done) | (simp; omega) | (simp at *; omega))) | with_reducible refine ch_trans ?_ (by with_reducible assumption))); have i0 := HO10.one; have HZZ : Hid (ValsV w10 (.slice (some ⟨c10, 0, none⟩) vs.length vs.length) vs) := hz.valsV hmt; clear hz)
          | (go_at_call 17; refine (eqRow_same _ _ vs _ ((HF3.out.on (by repeat (first | with_reducible exact Below.refl _ _ | with_reducible assumption | with_reducible refine ch_alloc ?_ _ | with_reducible refine Below.drew ?_ | with_reducible refine below_draws _ ?_ | (with_reducible refine Below.setCell ?_ ?_ _; rotate_left; focus (first | with_reducible exact Nat.le_refl _ | (simp; done) | (simp; omega) | (simp at *; omega))) | with_reducible refine ch_trans ?_ (by with_reducible assumption)))).valsV hmt) (HZZ.out.on (by repeat (first | with_reducible exact Below.refl _ _ | with_reducible assumption | with_reducible refine ch_alloc ?_ _ | with_reducible refine Below.drew ?_ | with_reducible refine below_draws _ ?_ | (with_reducible refine Below.setCell ?_ ?_ _; rotate_left; focus (first | with_reducible exact Nat.le_refl _ | (simp; done) | (simp; omega) | (simp at *; omega))) | with_reducible refine ch_trans ?_ (by with_reducible assumption))))).mono ?_; rintro e w11 ⟨rfl, b11⟩))
        all_goals
          have HQ : Hid (Below w9.heap.size w9 w11) := by show Below _ _ _; exact (by repeat (first | with_reducible exact Below.refl _ _ | with_reducible assumption | with_reducible refine ch_alloc ?_ _ | with_reducible refine Below.drew ?_ | with_reducible refine below_draws _ ?_ | (with_reducible refine Below.setCell ?_ ?_ _; rotate_left; focus (first | with_reducible exact Nat.le_refl _ | (simp; done) | (simp; omega) | (simp at *; omega))) | with_reducible refine ch_trans ?_ (by with_reducible assumption)))
          go_wp2_with fail
          go_meet
          exact ⟨rfl, HQ⟩
      case rest =>
        obtain ⟨w11, hw11⟩ : ∃ w11, w11 = wc := ⟨_, rfl⟩
        subst hw11
        obtain ⟨rfl, hcut⟩ := hcut
        have b11 := hcut.out
        clear hcut d0 g0
        have HN11 := HN9.on b11
        have HO11 := HO9.on b11
        have HF11 : Hid (Fill w11 B1 60 7 t.cols.length (t.cols.map Cl.cells) ∧ Fill w11 B2 9 1 t.keys.length (t.keys.map strX) ∧ Fill w11 B3 58 3 vs.length (vs.map Vc.cells)) := ⟨HF1.out.1.on (w' := w11) (by repeat (first | with_reducible exact Below.refl _ _ | with_reducible assumption | with_reducible refine ch_alloc ?_ _ | with_reducible refine Below.drew ?_ | with_reducible refine below_draws _ ?_ | (with_reducible refine Below.setCell ?_ ?_ _; rotate_left; focus (first | with_reducible exact Nat.le_refl _ | (simp; done) | (simp; omega) | (simp at *; omega))) | with_reducible refine ch_trans ?_ (by with_reducible assumption))), HF1.out.2.on (w' := w11) (by repeat (first | with_reducible exact Below.refl _ _ | with_reducible assumption | with_reducible refine ch_alloc ?_ _ | with_reducible refine Below.drew ?_ | with_reducible refine below_draws _ ?_ | (with_reducible refine Below.setCell ?_ ?_ _; rotate_left; focus (first | with_reducible exact Nat.le_refl _ | (simp; done) | (simp; omega) | (simp at *; omega))) | with_reducible refine ch_trans ?_ (by with_reducible assumption))), HF3.out.on (w' := w11) (by repeat (first | with_reducible exact Below.refl _ _ | with_reducible assumption | with_reducible refine ch_alloc ?_ _ | with_reducible refine Below.drew ?_ | with_reducible refine below_draws _ ?_ | (with_reducible refine Below.setCell ?_ ?_ _; rotate_left; focus (first | with_reducible exact Nat.le_refl _ | (simp; done) | (simp; omega) | (simp at *; omega))) | with_reducible refine ch_trans ?_ (by with_reducible assumption)))⟩
        have HG11 : Hid (Got w11 (w5.heap.size + 1) 58 3 (.slice a1 m1 e1) (ks.map Vc.cells)) := HG1.out.on (w' := w11) (by repeat (first | with_reducible exact Below.refl _ _ | with_reducible assumption | with_reducible refine ch_alloc ?_ _ | with_reducible refine Below.drew ?_ | with_reducible refine below_draws _ ?_ | (with_reducible refine Below.setCell ?_ ?_ _; rotate_left; focus (first | with_reducible exact Nat.le_refl _ | (simp; done) | (simp; omega) | (simp at *; omega))) | with_reducible refine ch_trans ?_ (by with_reducible assumption)))
        have HBd : Hid (Below wd.heap.size wd w11) := by show Below _ _ _; exact (by repeat (first | with_reducible exact Below.refl _ _ | with_reducible assumption | with_reducible refine ch_alloc ?_ _ | with_reducible refine Below.drew ?_ | with_reducible refine below_draws _ ?_ | (with_reducible refine Below.setCell ?_ ?_ _; rotate_left; focus (first | with_reducible exact Nat.le_refl _ | (simp; done) | (simp; omega) | (simp at *; omega))) | with_reducible refine ch_trans ?_ (by with_reducible assumption)))
        have hs11 : w5.heap.size + 1 ≤ w11.heap.size := by have := (show Below (w5.alloc (.cells #[.slice (some ⟨B3, 0, none⟩) vs.length vs.length] 40)).heap.size (w5.alloc (.cells #[.slice (some ⟨B3, 0, none⟩) vs.length vs.length] 40)) w11 from (by repeat (first | with_reducible exact Below.refl _ _ | with_reducible assumption | with_reducible refine ch_alloc ?_ _ | with_reducible refine Below.drew ?_ | with_reducible refine below_draws _ ?_ | (with_reducible refine Below.setCell ?_ ?_ _; rotate_left; focus (first | with_reducible exact Nat.le_refl _ | (simp; done) | (simp; omega) | (simp at *; omega))) | with_reducible refine ch_trans ?_ (by with_reducible assumption)))).size; simpa using this
        have hs4 : wd.heap.size ≤ w4.heap.size := b4.size
        have hs5 : w4.heap.size + 1 ≤ w5.heap.size := by have := b5.size; simpa using this
        obtain ⟨f1, hr1⟩ := HF11.out.1.rowIs
        obtain ⟨f2, hr2⟩ := HF11.out.2.1.rowIs
        obtain ⟨f3, hr3⟩ := HF11.out.2.2.rowIs
        have HR3 : Hid (w11.rowIs B3 58 (vs.length * 3) f3) := hr3
        have HR12 : Hid (w11.rowIs B1 60 (t.cols.length * 7) f1 ∧ w11.rowIs B2 9 (t.keys.length * 1) f2) := ⟨hr1, hr2⟩
        clear hr1 hr2 hr3 b4 b5 b6 b7 b9 b11
        obtain ⟨n0', n1, n2⟩ := HN11.three
        go_wp2_with fail
        refine (markTable_any t.name B1 t.cols.length t.cols.length _ _ f1 B2 t.keys.length t.keys.length _ _ f2 1 _ HR12.out.1 (Nat.le_refl _) hfc HR12.out.2 (by omega) hfk (by omega) (by omega)).mono ?_
        rintro e w12 ⟨rfl, hT1⟩
        have hK1b : 1 + t.cols.length * 7 + t.keys.length ≤ 20000000 := by omega
        generalize 1 + t.cols.length * 7 + t.keys.length = K1 at hK1b ⊢
        have g0 : w12.cell? ⟨w5.heap.size, 0, none⟩ = some (.slice (some ⟨B3, 0, none⟩) vs.length vs.length) := hT1.cell (by show ¬ (w5.heap.size = B1 ∨ w5.heap.size = B2); omega) HO11.one
        have HR3' : Hid (w12.rowIs B3 58 (vs.length * 3) f3) := HR3.out.of_block (hT1.block B3 HR3.out.lt (by omega))
        have HT1 : Hid (Turns (fun c => c = B1 ∨ c = B2 ∨ c = B3) w11 w12) := hT1.mono fun c h => h.elim Or.inl fun h => Or.inr (Or.inl h)
        clear hT1 n0' n1 n2
        go_wp2_with fail
        refine (markRow_any B3 vs.length vs.length _ _ f3 K1 _ HR3'.out (Nat.le_refl _) fewt (by omega)).mono ?_
        rintro e w13 ⟨rfl, hT2⟩
        have HT2 : Hid (Turns (fun c => c = B1 ∨ c = B2 ∨ c = B3) w11 w13) := HT1.out.trans (hT2.mono fun c h => Or.inr (Or.inr h))
        have hK2b : 0 ≤ K1 + vs.length * 3 := Nat.zero_le _
        generalize K1 + vs.length * 3 = K2 at hK2b ⊢
        have hk0 : decide ((K2 : Int) < 0) = false := by simp
        have HBe : Hid (Below wd.heap.size wd w13) := HBd.out.trans (HT2.out.toBelow (fun c h => by omega) (by omega))
        have hb13 : Below w2.heap.size w2 w13 := ch_trans hb0 HBe.out
        have HG013 : Hid (Got w13 w2.heap.size 58 3 (.slice a0 n0 e0) (ks.map Vc.cells)) := HG0.out.on HBe.out
        have HG113 : Hid (Got w13 (w5.heap.size + 1) 58 3 (.slice a1 m1 e1) (ks.map Vc.cells)) := HG11.out.turns HT2.out fun c h => by omega
        have hs13 : w5.heap.size + 1 ≤ w13.heap.size := Nat.le_trans hs11 HT2.out.size
        clear hT2 g0
        go_wp2_with (go_at_call 20; refine (eqValS_same _ _ ks _ HG113.out.vals HG013.out.vals).mono ?_; rintro e w14 ⟨rfl, b14⟩)
        have HG114 : Hid (Got w14 (w5.heap.size + 1) 58 3 (.slice a1 m1 e1) (ks.map Vc.cells)) := HG113.out.on b14
        have hkl' : (ks.map Vc.cells).length ≤ 1048576 := by simpa using hkl
        have hs14 : w5.heap.size + 1 ≤ w14.heap.size := Nat.le_trans hs13 b14.size
        have HB2 : Hid (Below w2.heap.size w2 w14) := ch_trans hb13 b14
        have HBf : Hid (Below wd.heap.size wd w14) := ch_trans HBe.out b14
        clear hb13 b14
        refine (markValS_got HG114.out hkl' 1 (by omega)).mono ?_
        rintro e w15 ⟨rfl, hT3, hheld⟩
        have HH : Hid (Held w15 (.slice a1 m1 e1) 1 (ks.map Vc.cells).length) := hheld
        have hs2 : w2.heap.size ≤ wd.heap.size := hb0.size
        have HB215 : Hid (Below w2.heap.size w2 w15) := HB2.out.trans (hT3.toBelow (fun c h => by have h : w5.heap.size + 1 ≤ c := h; omega) (by omega))
        have HBg : Hid (Below wd.heap.size wd w15) := HBf.out.trans (hT3.toBelow (fun c h => by have h : w5.heap.size + 1 ≤ c := h; omega) (by omega))
        have HHS : Hid (∀ u : World, Held u (.slice a1 m1 e1) 1 (ks.map Vc.cells).length → Calls Try.prog 24 #[.slice a1 m1 e1, .int .i64 1] u fun e w' => e = .returned (.int .i64 ((1 + (ks.map Vc.cells).length * 3 : Nat) : Int)) ∧ Below u.heap.size u w') := fun u hu => heldValS_held (k := 1) hu hkl' (by omega)
        clear hT3 hheld
        generalize 1 + (ks.map Vc.cells).length * 3 = M at HHS ⊢
        have hm0 : decide ((M : Int) < 0) = false := by simp
        have hmm : ((M : Int) != M) = false := by simp
        go_wp2_with fail
        refine (HHS.out _ HH.out).mono ?_
        rintro e w16 ⟨rfl, b16⟩
        have hb16 : Below w2.heap.size w2 w16 := ch_trans HB215.out b16
        have HH16 : Hid (Held w16 (.slice a1 m1 e1) 1 (ks.map Vc.cells).length) := HH.out.on b16
        have HG016 : Hid (Got w16 w2.heap.size 58 3 (.slice a0 n0 e0) (ks.map Vc.cells)) := HG0.out.on (ch_trans HBg.out b16)
        have HL16 := HL2.on hb16
        have HM16 := HM2.on hb16
        clear b16
        obtain ⟨c0, c1, c2⟩ := HL16.three
        have d0 := HM16.one
        go_wp2_with fail
        go_region_with (first
          | (go_at_call 10; refine (toTable_any #[.string t.name, .slice a t.cols.length p, .slice o t.keys.length z] t _ (HX.out.on (by repeat (first | with_reducible exact Below.refl _ _ | with_reducible assumption | with_reducible refine ch_alloc ?_ _ | with_reducible refine Below.drew ?_ | with_reducible refine below_draws _ ?_ | (with_reducible refine Below.setCell ?_ ?_ _; rotate_left; focus (first | with_reducible exact Nat.le_refl _ | (simp; done) | (simp; omega) | (simp at *; omega))) | with_reducible refine ch_trans ?_ (by with_reducible assumption)))) fews).mono ?_; rintro e w17 ⟨y, rfl, b17, hy, _⟩; have HYA : Hid (TabV w17 y t) := hy; clear hy; have HM17 := HM16.on (w' := w17) (by repeat (first | with_reducible exact Below.refl _ _ | with_reducible assumption | with_reducible refine ch_alloc ?_ _ | with_reducible refine Below.drew ?_ | with_reducible refine below_draws _ ?_ | (with_reducible refine Below.setCell ?_ ?_ _; rotate_left; focus (first | with_reducible exact Nat.le_refl _ | (simp; done) | (simp; omega) | (simp at *; omega))) | with_reducible refine ch_trans ?_ (by with_reducible assumption))); have f0 := HM17.one)
          | (go_at_call 15; refine (HTR.out _ (HY.out.on (by repeat (first | with_reducible exact Below.refl _ _ | with_reducible assumption | with_reducible refine ch_alloc ?_ _ | with_reducible refine Below.drew ?_ | with_reducible refine below_draws _ ?_ | (with_reducible refine Below.setCell ?_ ?_ _; rotate_left; focus (first | with_reducible exact Nat.le_refl _ | (simp; done) | (simp; omega) | (simp at *; omega))) | with_reducible refine ch_trans ?_ (by with_reducible assumption))))).mono ?_; rintro e w18 ⟨c, rfl, _, b18, hz⟩; have HZB : Hid (ValsV w18 (.slice (some ⟨c, 0, none⟩) vs.length vs.length) vs) := hz.valsV hmt; clear hz)
          | (go_at_call 19; refine (HSI.out _ _ _ (HYA.out.on (by repeat (first | with_reducible exact Below.refl _ _ | with_reducible assumption | with_reducible refine ch_alloc ?_ _ | with_reducible refine Below.drew ?_ | with_reducible refine below_draws _ ?_ | (with_reducible refine Below.setCell ?_ ?_ _; rotate_left; focus (first | with_reducible exact Nat.le_refl _ | (simp; done) | (simp; omega) | (simp at *; omega))) | with_reducible refine ch_trans ?_ (by with_reducible assumption)))) (HZB.out.on (by repeat (first | with_reducible exact Below.refl _ _ | with_reducible assumption | with_reducible refine ch_alloc ?_ _ | with_reducible refine Below.drew ?_ | with_reducible refine below_draws _ ?_ | (with_reducible refine Below.setCell ?_ ?_ _; rotate_left; focus (first | with_reducible exact Nat.le_refl _ | (simp; done) | (simp; omega) | (simp at *; omega))) | with_reducible refine ch_trans ?_ (by with_reducible assumption))))).mono ?_; rintro e w19 ⟨kv2, rfl, b19, hg2⟩; have HG2 : Hid (Got w19 w18.heap.size 58 3 kv2 (ks.map Vc.cells)) := hg2; clear hg2))
        all_goals
          have HG019 : Hid (Got w19 w2.heap.size 58 3 (.slice a0 n0 e0) (ks.map Vc.cells)) := HG016.out.on (by repeat (first | with_reducible exact Below.refl _ _ | with_reducible assumption | with_reducible refine ch_alloc ?_ _ | with_reducible refine Below.drew ?_ | with_reducible refine below_draws _ ?_ | (with_reducible refine Below.setCell ?_ ?_ _; rotate_left; focus (first | with_reducible exact Nat.le_refl _ | (simp; done) | (simp; omega) | (simp at *; omega))) | with_reducible refine ch_trans ?_ (by with_reducible assumption)))
          have HH19 : Hid (Held w19 (.slice a1 m1 e1) 1 (ks.map Vc.cells).length) := HH16.out.on (by repeat (first | with_reducible exact Below.refl _ _ | with_reducible assumption | with_reducible refine ch_alloc ?_ _ | with_reducible refine Below.drew ?_ | with_reducible refine below_draws _ ?_ | (with_reducible refine Below.setCell ?_ ?_ _; rotate_left; focus (first | with_reducible exact Nat.le_refl _ | (simp; done) | (simp; omega) | (simp at *; omega))) | with_reducible refine ch_trans ?_ (by with_reducible assumption)))
          go_wp2_with fail
          refine (eqValS_same _ _ ks _ HG2.out.vals HG019.out.vals).mono ?_
          rintro e w20 ⟨rfl, b20⟩
          go_wp2_with fail
          refine (HHS.out _ (HH19.out.on b20)).mono ?_
          rintro e w21 ⟨rfl, b21⟩
          go_wp2
          go_ret
          exact ⟨rfl, (by repeat (first | with_reducible exact Below.refl _ _ | with_reducible assumption | with_reducible refine ch_alloc ?_ _ | with_reducible refine Below.drew ?_ | with_reducible refine below_draws _ ?_ | (with_reducible refine Below.setCell ?_ ?_ _; rotate_left; focus (first | with_reducible exact Nat.le_refl _ | (simp; done) | (simp; omega) | (simp at *; omega))) | with_reducible refine ch_trans ?_ (by with_reducible assumption)))⟩

theorem own : ownKnob Try.prog.godebug = none := by kernel_rfl
theorem laidOut : laidOutB Try.prog = true := by kernel_rfl

set_option maxRecDepth 100000 in
theorem lifted (os : Os) (started : os.Started) (H : Type) (enc : TypeId × Value → H) :
    ReturnsInHanded {} Try.checked os 5 .any (Rows.fnExactKeyOfSpec.pre6 enc Try.prog Try.f5 Rows.fnExactKeyOfRow.domain false) (Rows.fnExactKeyOfSpec.post enc Try.prog Try.f5 false true false false) := by
  refine returnsInHanded_of_change (C := Try.checked) own started (by kernel_rfl) Try.func5
    (ChangeSpec.witness6 (enc := enc) (C := Try.checked) false ⟨#[], #[.agg #[.string ByteArray.empty, .slice none 0 0, .slice none 0 0], .agg #[.slice none 0 0]], []⟩ 8 (by kernel_rfl) (by kernel_rfl) (by kernel_rfl) (by kernel_rfl)) ?_
  intro W base args ds gs before hval0 hW _ _
  have hval : ∀ (j : Nat) t v, Try.f5.params[j]? = some t → args[j]? = some v → Value.okWide Try.prog W .any base t v := hval0
  have hW' := hW
  obtain ⟨p, q, hA0, hV, rfl, _, _⟩ := hW
  have hA : DataW.TrodAll enc Try.prog W 0 (fun _ => true) true Try.f5.params.toList args.toList ds p := hA0
  rw [Try.params5] at hA hval
  obtain ⟨v0, v1, d0, d1, p0, p1, rfl, rfl, rfl, h0, h1⟩ := trodAll_two hA
  obtain ⟨rfl, rfl⟩ := trodVars_none hV
  have h0k := h0
  have h1k := h1
  obtain ⟨cs, rfl, hsz⟩ := okWide_struct Try.underlying25 (hval 0 25 v0 rfl rfl)
  obtain ⟨k, hk⟩ := h0
  obtain ⟨x, t, hc, hx, hf⟩ := open_tab hk
  have hc' : cs = x := by apply Array.toList_inj.1; simpa [Value.cells] using hc
  subst hc'
  obtain ⟨cs1, rfl, hsz1⟩ := okWide_struct Try.underlying35 (hval 1 35 v1 rfl rfl)
  obtain ⟨k1, hk1⟩ := h1
  obtain ⟨x1, t1, hc1, hx1, hf1⟩ := open_rw hk1
  have hc1' : cs1 = #[x1] := by apply Array.toList_inj.1; simpa [Value.cells] using hc1
  subst hc1'
  clear hA0 hval0
  simp only [List.append_nil] at hW'
  have hlt : ∀ x ∈ p0, x.block < W.heap.size := fun x hx => by simpa using hW'.lt x (by simp [hx])
  have hlt1 : ∀ x ∈ p1, x.block < W.heap.size := fun x hx => by simpa using hW'.lt x (by simp [hx])
  refine (walk cs x1 t t1 W hx hx1 hf hf1).mono fun e W' ⟨he, bel⟩ => ?_
  subst he
  exact ⟨_, rfl, _, _, _, [], _, [], hW', trodAll_mk1 (shut_bool Try.underlying4 _), trodAll_mk2 (Below.trod laidOut (by kernel_rfl) (of_decide_eq_true (by kernel_rfl)) h0k bel hlt) (Below.trod laidOut (by kernel_rfl) (of_decide_eq_true (by kernel_rfl)) h1k bel hlt1), rfl, bel.frame _, fun h => by cases h⟩

theorem over : Rows.FnExactKeyOfSaid :=
  OpenClaim.holds_of_wide 5 Try.f5 rfl rfl rfl rfl rfl rfl rfl ⟨rfl, rfl, rfl, rfl, rfl⟩ rfl rfl rfl rfl rfl (by kernel_rfl) Try.func5 (by kernel_rfl)
    (of_decide_eq_true (by kernel_rfl)) (by unfold Func.isWrapper; first | (rw [if_pos (by decide +kernel)]; kernel_rfl) | (rw [if_neg (by decide +kernel)]; exact ⟨rfl, rfl⟩))
    (fun os started H enc _ => lifted os started H enc)
end Go.Proofs.Ytmkgbdgafjeeiai.lawKeyOf
namespace Go.Proofs.Ytmkgbdgafjeeiai
theorem fnExactKeyOf_holds : Rows.FnExactKeyOfSaid := lawKeyOf.over
#print axioms fnExactKeyOf_holds
end Go.Proofs.Ytmkgbdgafjeeiai
