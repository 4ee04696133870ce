/- Stores in memory: the laws' size, copy and look. -/
import Derived.Test.YtiijahoheajppabDa
import Derived.Test.YtiijahoheajppabCtO
namespace Go.Proofs.Ytiijahoheajppab
open Go.ChangeShapes Go.WideShapes Go.ChangeAt Go.RowKit

set_option maxRecDepth 100000 in
set_option maxHeartbeats 1000000 in
/-- laws.szDb -/
theorem szDb_any (cv dv : Value) (ts : List Tc) (ds : List (List (List Vc))) (l : Int) (w : World) (hc : TabsV w cv ts) (hd : DataV w dv ds) (hf : fits ts) (hg : dfits ds) (h0 : 0 ≤ l) (h1 : l ≤ 1048576) :
    Calls Try.prog 5 #[.agg #[cv, dv], .int .i64 l] w fun e w' => ∃ r : Int, e = .returned (.int .i64 r) ∧ Below w.heap.size w w' ∧ (r = -1 ∨ (0 ≤ r ∧ r ≤ l ∧ fews ts ∧ dfews ds)) := by
  obtain ⟨a, p, rfl, _, _⟩ := hc.lit
  obtain ⟨a', p', rfl, _, _, _⟩ := hd.lit
  have HC : Hid (TabsV w (.slice a ts.length p) ts) := hc
  have HD : Hid (DataV w (.slice a' ds.length p') ds) := hd
  have HF : Hid (fits ts) := hf
  have HG : Hid (dfits ds) := hg
  have HL := Loc.new w #[.slice a ts.length p, .slice a' ds.length p'] 27
  clear hc hd hf hg
  go_enter Try.func5, Try.ntmps5
  go_wp2_with fail
  refine (szCat_any _ ts l _ (HC.out.on (w' := w.alloc (.cells #[.slice a ts.length p, .slice a' ds.length p'] 27)) (by repeat (first | with_reducible exact Below.refl _ _ | with_reducible assumption | with_reducible refine ch_alloc ?_ _ | with_reducible refine Below.drew ?_ | with_reducible refine below_draws _ ?_ | (with_reducible refine Below.setCell ?_ ?_ _; rotate_left; focus (first | with_reducible exact Nat.le_refl _ | (simp; done) | (simp; omega) | (simp at *; omega))) | with_reducible refine ch_trans ?_ (by with_reducible assumption)))) HF.out h0 h1).mono ?_
  rintro e w1 ⟨r, rfl, b1, hr⟩
  have HL1 := HL.on b1
  obtain ⟨c0, c1⟩ := HL1.two
  rcases hr with rfl | ⟨r0, r1, r2⟩
  · go_wp2
    go_ret
    exact ⟨_, rfl, (by repeat (first | with_reducible exact Below.refl _ _ | with_reducible assumption | with_reducible refine ch_alloc ?_ _ | with_reducible refine Below.drew ?_ | with_reducible refine below_draws _ ?_ | (with_reducible refine Below.setCell ?_ ?_ _; rotate_left; focus (first | with_reducible exact Nat.le_refl _ | (simp; done) | (simp; omega) | (simp at *; omega))) | with_reducible refine ch_trans ?_ (by with_reducible assumption))), Or.inl rfl⟩
  have HR : Hid (fews ts) := r2
  clear r2
  go_wp2_with fail
  refine (szRowsS_any _ ds r _ (HD.out.on (w' := w1) (by repeat (first | with_reducible exact Below.refl _ _ | with_reducible assumption | with_reducible refine ch_alloc ?_ _ | with_reducible refine Below.drew ?_ | with_reducible refine below_draws _ ?_ | (with_reducible refine Below.setCell ?_ ?_ _; rotate_left; focus (first | with_reducible exact Nat.le_refl _ | (simp; done) | (simp; omega) | (simp at *; omega))) | with_reducible refine ch_trans ?_ (by with_reducible assumption)))) HG.out r0 (by omega)).mono ?_
  rintro e w2 ⟨q, rfl, b2, hq⟩
  rcases hq with rfl | ⟨q0, q1, q2⟩
  · go_wp2
    go_ret
    exact ⟨_, rfl, (by repeat (first | with_reducible exact Below.refl _ _ | with_reducible assumption | with_reducible refine ch_alloc ?_ _ | with_reducible refine Below.drew ?_ | with_reducible refine below_draws _ ?_ | (with_reducible refine Below.setCell ?_ ?_ _; rotate_left; focus (first | with_reducible exact Nat.le_refl _ | (simp; done) | (simp; omega) | (simp at *; omega))) | with_reducible refine ch_trans ?_ (by with_reducible assumption))), Or.inl rfl⟩
  · have HQ : Hid (dfews ds) := q2
    clear q2
    go_wp2
    go_ret
    exact ⟨_, rfl, (by repeat (first | with_reducible exact Below.refl _ _ | with_reducible assumption | with_reducible refine ch_alloc ?_ _ | with_reducible refine Below.drew ?_ | with_reducible refine below_draws _ ?_ | (with_reducible refine Below.setCell ?_ ?_ _; rotate_left; focus (first | with_reducible exact Nat.le_refl _ | (simp; done) | (simp; omega) | (simp at *; omega))) | with_reducible refine ch_trans ?_ (by with_reducible assumption))), Or.inr ⟨q0, by omega, HR.out, HQ.out⟩⟩

set_option maxRecDepth 100000 in
set_option maxHeartbeats 1000000 in
/-- laws.eqDb -/
theorem eqDb_same (cv dv cv' dv' : Value) (ts : List Tc) (ds : List (List (List Vc))) (w : World) (hc : TabsV w cv ts) (hd : DataV w dv ds) (hc' : TabsV w cv' ts) (hd' : DataV w dv' ds) :
    Calls Try.prog 10 #[.agg #[cv, dv], .agg #[cv', dv']] w fun e w' => e = .returned (.bool true) ∧ Below w.heap.size w w' := by
  obtain ⟨a, p, rfl, _, _⟩ := hc.lit
  obtain ⟨b, q, rfl, _, _, _⟩ := hd.lit
  obtain ⟨a', p', rfl, _, _⟩ := hc'.lit
  obtain ⟨b', q', rfl, _, _, _⟩ := hd'.lit
  have HC : Hid (TabsV w (.slice a ts.length p) ts ∧ TabsV w (.slice a' ts.length p') ts) := ⟨hc, hc'⟩
  have HD : Hid (DataV w (.slice b ds.length q) ds ∧ DataV w (.slice b' ds.length q') ds) := ⟨hd, hd'⟩
  have HL := Loc.new w #[.slice a ts.length p, .slice b ds.length q] 37
  have HM := Loc.new (w.alloc (.cells #[.slice a ts.length p, .slice b ds.length q] 37)) #[.slice a' ts.length p', .slice b' ds.length q'] 37
  clear hc hd hc' hd'
  go_enter Try.func10, Try.ntmps10
  go_wp2_with fail
  refine (eqCat_same _ _ ts _ (HC.out.1.on (by repeat (first | with_reducible exact Below.refl _ _ | with_reducible assumption | with_reducible refine ch_alloc ?_ _ | with_reducible refine Below.drew ?_ | with_reducible refine below_draws _ ?_ | (with_reducible refine Below.setCell ?_ ?_ _; rotate_left; focus (first | with_reducible exact Nat.le_refl _ | (simp; done) | (simp; omega) | (simp at *; omega))) | with_reducible refine ch_trans ?_ (by with_reducible assumption)))) (HC.out.2.on (by repeat (first | with_reducible exact Below.refl _ _ | with_reducible assumption | with_reducible refine ch_alloc ?_ _ | with_reducible refine Below.drew ?_ | with_reducible refine below_draws _ ?_ | (with_reducible refine Below.setCell ?_ ?_ _; rotate_left; focus (first | with_reducible exact Nat.le_refl _ | (simp; done) | (simp; omega) | (simp at *; omega))) | with_reducible refine ch_trans ?_ (by with_reducible assumption))))).mono ?_
  rintro e w1 ⟨rfl, b1⟩
  have HL1 := HL.on (w' := w1) (by repeat (first | with_reducible exact Below.refl _ _ | with_reducible assumption | with_reducible refine ch_alloc ?_ _ | with_reducible refine Below.drew ?_ | with_reducible refine below_draws _ ?_ | (with_reducible refine Below.setCell ?_ ?_ _; rotate_left; focus (first | with_reducible exact Nat.le_refl _ | (simp; done) | (simp; omega) | (simp at *; omega))) | with_reducible refine ch_trans ?_ (by with_reducible assumption)))
  have HM1 := HM.on b1
  rw [show (w.alloc (.cells #[.slice a ts.length p, .slice b ds.length q] 37)).heap.size = w.heap.size + 1 from by simp] at HM1
  obtain ⟨c0, c1⟩ := HL1.two
  obtain ⟨d0, d1⟩ := HM1.two
  go_wp2_with fail
  refine (eqRowsS_same _ _ ds _ (HD.out.1.on (by repeat (first | with_reducible exact Below.refl _ _ | with_reducible assumption | with_reducible refine ch_alloc ?_ _ | with_reducible refine Below.drew ?_ | with_reducible refine below_draws _ ?_ | (with_reducible refine Below.setCell ?_ ?_ _; rotate_left; focus (first | with_reducible exact Nat.le_refl _ | (simp; done) | (simp; omega) | (simp at *; omega))) | with_reducible refine ch_trans ?_ (by with_reducible assumption)))) (HD.out.2.on (by repeat (first | with_reducible exact Below.refl _ _ | with_reducible assumption | with_reducible refine ch_alloc ?_ _ | with_reducible refine Below.drew ?_ | with_reducible refine below_draws _ ?_ | (with_reducible refine Below.setCell ?_ ?_ _; rotate_left; focus (first | with_reducible exact Nat.le_refl _ | (simp; done) | (simp; omega) | (simp at *; omega))) | with_reducible refine ch_trans ?_ (by with_reducible assumption))))).mono ?_
  rintro e w2 ⟨rfl, b2⟩
  go_wp2
  go_ret
  exact ⟨rfl, (by repeat (first | with_reducible exact Below.refl _ _ | with_reducible assumption | with_reducible refine ch_alloc ?_ _ | with_reducible refine Below.drew ?_ | with_reducible refine below_draws _ ?_ | (with_reducible refine Below.setCell ?_ ?_ _; rotate_left; focus (first | with_reducible exact Nat.le_refl _ | (simp; done) | (simp; omega) | (simp at *; omega))) | with_reducible refine ch_trans ?_ (by with_reducible assumption)))⟩

set_option maxRecDepth 100000 in
set_option maxHeartbeats 1000000 in
/-- laws.toDb -/
theorem toDb_any (cv dv : Value) (ts : List Tc) (ds : List (List (List Vc))) (w : World) (hc : TabsV w cv ts) (hd : DataV w dv ds) (hf : fews ts) (hg : dfews ds) :
    Calls Try.prog 7 #[.agg #[cv, dv]] w fun e w' => ∃ y z, e = .returned (.agg #[y, z]) ∧ Below w.heap.size w w' ∧ Firm w.heap.size (fun u => TabsV u y ts ∧ DataV u z ds) w' := by
  obtain ⟨a, p, rfl, _, _⟩ := hc.lit
  obtain ⟨b, q, rfl, _, _, _⟩ := hd.lit
  have HC : Hid (TabsV w (.slice a ts.length p) ts) := hc
  have HD : Hid (DataV w (.slice b ds.length q) ds) := hd
  have hdl : ds.length ≤ maxLen := by have := hg.1; unfold maxLen; omega
  have HF : Hid (fews ts) := hf
  have HG : Hid (dfews ds) := hg
  have HL := Loc.new w #[.slice a ts.length p, .slice b ds.length q] 27
  clear hc hd hf hg
  go_enter Try.func7, Try.ntmps7
  go_wp2_with fail
  refine (toCat_any _ ts _ (HC.out.on (by repeat (first | with_reducible exact Below.refl _ _ | with_reducible assumption | with_reducible refine ch_alloc ?_ _ | with_reducible refine Below.drew ?_ | with_reducible refine below_draws _ ?_ | (with_reducible refine Below.setCell ?_ ?_ _; rotate_left; focus (first | with_reducible exact Nat.le_refl _ | (simp; done) | (simp; omega) | (simp at *; omega))) | with_reducible refine ch_trans ?_ (by with_reducible assumption)))) HF.out).mono ?_
  rintro e w1 ⟨y, rfl, b1, hy⟩
  obtain ⟨a1, p1, rfl, _, _⟩ := hy.1.lit
  have HY : Hid (Firm (w.heap.size + 1 + 1 + 1) (fun u => TabsV u (.slice a1 ts.length p1) ts) w1) := by show Firm _ _ _; simpa using hy.firm
  clear hy
  have HL1 := HL.on (w' := w1) (by repeat (first | with_reducible exact Below.refl _ _ | with_reducible assumption | with_reducible refine ch_alloc ?_ _ | with_reducible refine Below.drew ?_ | with_reducible refine below_draws _ ?_ | (with_reducible refine Below.setCell ?_ ?_ _; rotate_left; focus (first | with_reducible exact Nat.le_refl _ | (simp; done) | (simp; omega) | (simp at *; omega))) | with_reducible refine ch_trans ?_ (by with_reducible assumption)))
  have HO : Own w1 (w.heap.size + 1 + 1) 37 #[.slice none 0 0, .slice none 0 0] := (Own.at ((w.alloc (.cells #[.slice a ts.length p, .slice b ds.length q] 27)).alloc (.cells #[.slice none 0 0, .slice none 0 0] 37)) _ _ (by simp)).on b1
  have HQ : Own w1 (w.heap.size + 1) 37 #[.slice none 0 0, .slice none 0 0] := ((Own.at (w.alloc (.cells #[.slice a ts.length p, .slice b ds.length q] 27)) _ _ (by simp)).on (ch_alloc (Below.refl _ _) _)).on b1
  have hsz : w.heap.size + 1 + 1 + 1 ≤ w1.heap.size := by simpa using b1.size
  obtain ⟨c0, c1⟩ := HL1.two
  obtain ⟨d0, d1⟩ := HO.loc.two
  have f0 := HO.frozen 0
  go_wp2_with fail
  have hb1 : Below w.heap.size w (w1.setCell ⟨w.heap.size + 1 + 1, 0, none⟩ (.slice a1 ts.length p1)) := (by repeat (first | with_reducible exact Below.refl _ _ | with_reducible assumption | with_reducible refine ch_alloc ?_ _ | with_reducible refine Below.drew ?_ | with_reducible refine below_draws _ ?_ | (with_reducible refine Below.setCell ?_ ?_ _; rotate_left; focus (first | with_reducible exact Nat.le_refl _ | (simp; done) | (simp; omega) | (simp at *; omega))) | with_reducible refine ch_trans ?_ (by with_reducible assumption)))
  have HY1 : Hid (Firm (w.heap.size + 1 + 1 + 1) (fun u => TabsV u (.slice a1 ts.length p1) ts) (w1.setCell ⟨w.heap.size + 1 + 1, 0, none⟩ (.slice a1 ts.length p1))) := HY.out.set (by simp) _
  have HO1 : Own (w1.setCell ⟨w.heap.size + 1 + 1, 0, none⟩ (.slice a1 ts.length p1)) (w.heap.size + 1 + 1) 37 #[.slice a1 ts.length p1, .slice none 0 0] := HO.set 0 _
  have HQ1 : Own (w1.setCell ⟨w.heap.size + 1 + 1, 0, none⟩ (.slice a1 ts.length p1)) (w.heap.size + 1) 37 #[.slice none 0 0, .slice none 0 0] := HQ.other (by simp) _
  have hsz1 : w.heap.size + 1 + 1 + 1 ≤ (w1.setCell ⟨w.heap.size + 1 + 1, 0, none⟩ (.slice a1 ts.length p1)).heap.size := by simpa using hsz
  clear HY HO HQ hsz c0 c1 d0 d1 f0 HL1
  generalize w1.setCell ⟨w.heap.size + 1 + 1, 0, none⟩ (.slice a1 ts.length p1) = w2 at hb1 HY1 HO1 HQ1 hsz1 ⊢
  refine (toRowsS_any _ ds _ (HD.out.on hb1) HG.out).mono ?_
  rintro e w3 ⟨B, rfl, hB, b3, hf⟩
  have HZ : Hid (Firm (w.heap.size + 1 + 1 + 1) (fun u => DataV u (.slice (some ⟨B, 0, none⟩) ds.length ds.length) ds) w3) := (hf.firm hdl).mono (by omega)
  have HY3 : Hid (Firm (w.heap.size + 1 + 1 + 1) (fun u => TabsV u (.slice a1 ts.length p1) ts) w3) := HY1.out.on b3
  have HO3 := HO1.on b3
  have HQ3 := HQ1.on b3
  have hb3 : Below w.heap.size w w3 := ch_trans hb1 b3
  clear hf hB HY1 HO1 HQ1 b3 hb1
  obtain ⟨d0, d1⟩ := HO3.loc.two
  have f1 := HO3.frozen 1
  obtain ⟨g0, g1⟩ := HQ3.loc.two
  have i0 := HQ3.frozen 0
  have i1 := HQ3.frozen 1
  go_wp2
  have HQ4 : Own _ _ _ #[.slice a1 ts.length p1, .slice (some ⟨B, 0, none⟩) ds.length ds.length] := ((HQ3.other (p := ⟨w.heap.size + 1 + 1, 1, none⟩) (by simp) (.slice (some ⟨B, 0, none⟩) ds.length ds.length)).set 0 (.slice a1 ts.length p1)).set 1 (.slice (some ⟨B, 0, none⟩) ds.length ds.length)
  have HF4 : Hid (Firm (w.heap.size + 1 + 1 + 1) (fun u => TabsV u (.slice a1 ts.length p1) ts ∧ DataV u (.slice (some ⟨B, 0, none⟩) ds.length ds.length) ds) (((w3.setCell ⟨w.heap.size + 1 + 1, 1, none⟩ (.slice (some ⟨B, 0, none⟩) ds.length ds.length)).setCell ⟨w.heap.size + 1, 0, none⟩ (.slice a1 ts.length p1)).setCell ⟨w.heap.size + 1, 1, none⟩ (.slice (some ⟨B, 0, none⟩) ds.length ds.length))) := (((HY3.out.and HZ.out).set (by simp) _).set (by simp) _).set (by simp) _
  have HB : Hid (Below w.heap.size w (((w3.setCell ⟨w.heap.size + 1 + 1, 1, none⟩ (.slice (some ⟨B, 0, none⟩) ds.length ds.length)).setCell ⟨w.heap.size + 1, 0, none⟩ (.slice a1 ts.length p1)).setCell ⟨w.heap.size + 1, 1, none⟩ (.slice (some ⟨B, 0, none⟩) ds.length ds.length))) := by
    show Below _ _ _
    exact (by repeat (first | with_reducible exact Below.refl _ _ | with_reducible assumption | with_reducible refine ch_alloc ?_ _ | with_reducible refine Below.drew ?_ | with_reducible refine below_draws _ ?_ | (with_reducible refine Below.setCell ?_ ?_ _; rotate_left; focus (first | with_reducible exact Nat.le_refl _ | (simp; done) | (simp; omega) | (simp at *; omega))) | with_reducible refine ch_trans ?_ (by with_reducible assumption)))
  generalize (((w3.setCell ⟨w.heap.size + 1 + 1, 1, none⟩ (.slice (some ⟨B, 0, none⟩) ds.length ds.length)).setCell ⟨w.heap.size + 1, 0, none⟩ (.slice a1 ts.length p1)).setCell ⟨w.heap.size + 1, 1, none⟩ (.slice (some ⟨B, 0, none⟩) ds.length ds.length)) = W at HQ4 HB HF4 ⊢
  obtain ⟨e0, e1⟩ := HQ4.loc.two
  exact bodyPost_ret (v := .agg #[.slice a1 ts.length p1, .slice (some ⟨B, 0, none⟩) ds.length ds.length]) (by simp [results, Try.results7, go_sem, e0, e1]) rfl ⟨_, _, rfl, HB.out, HF4.out.mono (by omega)⟩
end Go.Proofs.Ytiijahoheajppab
