/- The names of a table: both NamesOf. -/
import Derived.Test.YtiijahoheajppabNm
namespace Go.Proofs.Ytiijahoheajppab
open Go.ChangeShapes Go.WideShapes Go.ChangeAt Go.RowKit

theorem names_unique {ts : List Tc} {ds : List (List (List Vc))} {s : ByteArray} {cs ks cs' ks' : List ByteArray} (h : isNames ts ds s cs ks) (k : isNames ts ds s cs' ks') : cs = cs' ∧ ks = ks' := by
  rcases h with ⟨h1, i, h2, h3, rfl, rfl⟩ | ⟨h1, rfl, rfl⟩
  · rcases k with ⟨_, j, k2, k3, rfl, rfl⟩ | ⟨k1, _⟩
    · have : i = j := by rw [h2] at k2; omega
      subst this; exact ⟨rfl, rfl⟩
    · rcases k1 with k1 | k1
      · exact absurd h1 k1
      · rw [h2] at k1; omega
  · rcases k with ⟨k1, j, k2, _⟩ | ⟨_, rfl, rfl⟩
    · rcases h1 with h1 | h1
      · exact absurd k1 h1
      · rw [k2] at h1; omega
    · exact ⟨rfl, rfl⟩
theorem Got.low {w w' : World} {B B' : Nat} {T : TypeId} {z : Nat} {v : Value} {xs : List (Array Value)} (h : Got w B T z v xs) (k : Below B' w w') (hlt : ∀ c, v.ownBlock = some c → c < B') : Got w' B T z v xs := by
  refine ⟨h.1, h.2.1, ?_⟩
  rcases h.2.2 with hn | ⟨g, cap, cur, rfl, hb, hg, rest⟩
  · exact Or.inl hn
  · exact Or.inr ⟨g, cap, cur, rfl, hb, (k.block g (hlt g rfl)).trans hg, rest⟩
set_option maxRecDepth 100000 in
set_option maxHeartbeats 2000000 in
/-- impl.NamesOf -/
theorem namesOf_impl (cv dv : Value) (ts : List Tc) (ds : List (List (List Vc))) (s : ByteArray) (w : World) (hc : TabsV w cv ts) (hd : DataV w dv ds) (hf : fits ts) (cs ks : List ByteArray) (hrs : isNames ts ds s cs ks) :
    Calls Try.prog 8 #[.agg #[cv, dv], .string s] w fun e w' => ∃ v0 v1, e = .returned (.tuple #[v0, v1]) ∧ Below w.heap.size w w' ∧ Two w' w.heap.size v0 v1 cs ks := by
  obtain ⟨a, p, rfl, hl, hm⟩ := hc.lit
  obtain ⟨a', p', rfl, hl', hm', _⟩ := hd.lit
  unfold maxLen at hm hm'
  have HC : Hid (TabsV w (.slice a ts.length p) ts) := hc
  have HD : Hid (DataV w (.slice a' ds.length p') ds) := hd
  have HF : Hid (fits ts) := hf
  have HRS : Hid (isNames ts ds s cs ks) := hrs
  have HL := Loc.new w #[.slice a ts.length p, .slice a' ds.length p'] 37
  have hbv : Below w.heap.size w (w.alloc (.cells #[.slice a ts.length p, .slice a' ds.length p'] 37)) := (by repeat (first | with_reducible exact Below.refl _ _ | with_reducible assumption | with_reducible refine ch_alloc ?_ _ | with_reducible refine Below.drew ?_ | with_reducible refine below_draws _ ?_ | (with_reducible refine Below.setCell ?_ ?_ _; rotate_left; focus (first | with_reducible exact Nat.le_refl _ | (simp; done) | (simp; omega) | (simp at *; omega))) | with_reducible refine ch_trans ?_ (by with_reducible assumption)))
  clear hc hd hf hrs
  obtain ⟨l0, l1⟩ := HL.two
  go_enter Try.func8, Try.ntmps8
  go_wp2_with fail
  refine (dbOk_impl _ _ ts ds _ (HC.out.on hbv) (HD.out.on hbv) HF.out).mono ?_
  rintro e w2 ⟨q, rfl, hq, b2⟩
  have HQ : Hid (q = true ↔ dbRight ts ds) := hq
  have HL2 := HL.on b2
  have hb2 := ch_trans hbv b2
  clear b2 HL l0 l1 hq hbv
  obtain ⟨l0, l1⟩ := HL2.two
  cases q
  · have HE : Hid (cs = [] ∧ ks = []) := by
      show _ ∧ _
      rcases HRS.out with ⟨h, _⟩ | ⟨_, h⟩
      · have := HQ.out.2 h; cases this
      · exact h
    clear HQ HRS
    go_wp2
    go_ret2
    exact ⟨_, _, rfl, hb2, by rw [HE.out.1, HE.out.2]; exact Two.nil _ _⟩
  have HR : Hid (dbRight ts ds) := HQ.out.1 (by trivial)
  clear HQ
  go_wp2_with fail
  refine (namesIn_any _ ts s _ (HC.out.on hb2) HR.out.1).mono ?_
  rintro e w3 ⟨v0, v1, cs', ks', rfl, hor, b3, htw⟩
  have HE : Hid (cs' = cs ∧ ks' = ks) := names_unique (by
    rcases hor with ⟨i, h1, h2, h3, h4⟩ | ⟨h1, h2, h3⟩
    · exact Or.inl ⟨HR.out, i, h1, h2, h3, h4⟩
    · exact Or.inr ⟨Or.inr h1, h2, h3⟩) HRS.out
  have HT : Hid (Two w3 w.heap.size v0 v1 cs' ks') := htw.mono hb2.size
  have hb3 := ch_trans hb2 b3
  clear hor htw b3
  go_wp2
  go_ret2
  exact ⟨_, _, rfl, hb3, by rw [← HE.out.1, ← HE.out.2]; exact HT.out⟩

set_option maxRecDepth 100000 in
set_option maxHeartbeats 2000000 in
/-- spec.NamesOf -/
theorem namesOf_spec (cv dv : Value) (ts : List Tc) (ds : List (List (List Vc))) (s : ByteArray) (w : World) (hc : TabsV w cv ts) (hd : DataV w dv ds) (hf : fits ts) (cs ks : List ByteArray) (hrs : isNames ts ds s cs ks) :
    Calls Try.prog 6 #[.agg #[cv, dv], .string s] w fun e w' => ∃ v0 v1, e = .returned (.tuple #[v0, v1]) ∧ Below w.heap.size w w' ∧ StrsV w' v0 cs ∧ StrsV w' v1 ks := by
  obtain ⟨a, p, rfl, hl, hm⟩ := hc.lit
  obtain ⟨a', p', rfl, hl', hm', _⟩ := hd.lit
  unfold maxLen at hm hm'
  have HC : Hid (TabsV w (.slice a ts.length p) ts) := hc
  have HD : Hid (DataV w (.slice a' ds.length p') ds) := hd
  have HF : Hid (fits ts) := hf
  have HRS : Hid (isNames ts ds s cs ks) := hrs
  have HL := Loc.new w #[.slice a ts.length p, .slice a' ds.length p'] 37
  have hbv : Below w.heap.size w (w.alloc (.cells #[.slice a ts.length p, .slice a' ds.length p'] 37)) := (by repeat (first | with_reducible exact Below.refl _ _ | with_reducible assumption | with_reducible refine ch_alloc ?_ _ | with_reducible refine Below.drew ?_ | with_reducible refine below_draws _ ?_ | (with_reducible refine Below.setCell ?_ ?_ _; rotate_left; focus (first | with_reducible exact Nat.le_refl _ | (simp; done) | (simp; omega) | (simp at *; omega))) | with_reducible refine ch_trans ?_ (by with_reducible assumption)))
  clear hc hd hf hrs
  obtain ⟨l0, l1⟩ := HL.two
  obtain ⟨t, q, hto⟩ := tableOf_is ts s
  have HTO : Hid (isTableOf ts s t q) := hto
  clear hto
  go_enter Try.func6, Try.ntmps6
  go_wp2_with fail
  refine (tableOf_spec _ ts s _ (HC.out.on hbv) HF.out t q HTO.out).mono ?_
  rintro e w1 ⟨y, rfl, b1, hg⟩
  obtain ⟨xa, xn, xp, ya, yn, yp, rfl, hg⟩ := hg.lit
  have HG : Hid (TabG w1 w.heap.size #[.string t.name, .slice xa xn xp, .slice ya yn yp] t) := hg.mono (by simp)
  have HXY : Hid ((∀ c, (Value.slice xa xn xp).ownBlock = some c → c < w1.heap.size + 1) ∧ ∀ c, (Value.slice ya yn yp).ownBlock = some c → c < w1.heap.size + 1) := by
    obtain ⟨_, _, ee, hgc, hgk⟩ := hg
    simp at ee
    obtain ⟨rfl, rfl⟩ := ee
    exact ⟨fun c hc => Nat.lt_succ_of_lt (hgc.hd_lt' c hc), fun c hc => Nat.lt_succ_of_lt (hgk.hd_lt' c hc)⟩
  have HL1 := HL.on b1
  have hb1 := ch_trans hbv b1
  clear b1 hbv HL l0 l1 hg
  obtain ⟨l0, l1⟩ := HL1.two
  cases q
  · have HE : Hid (cs = [] ∧ ks = []) := by
      show _ ∧ _
      rcases HRS.out with ⟨h, i, h2, h3, _⟩ | ⟨_, h⟩
      · rcases HTO.out with ⟨_, _, _, _, _, h4⟩ | ⟨h4, _⟩
        · cases h4
        · rcases h4 with h4 | h4
          · exact absurd h.1 h4
          · rw [h2] at h4; omega
      · exact h
    clear HTO HRS HG
    go_wp2
    go_ret2
    exact ⟨_, _, rfl, (by repeat (first | with_reducible exact Below.refl _ _ | with_reducible assumption | with_reducible refine ch_alloc ?_ _ | with_reducible refine Below.drew ?_ | with_reducible refine below_draws _ ?_ | (with_reducible refine Below.setCell ?_ ?_ _; rotate_left; focus (first | with_reducible exact Nat.le_refl _ | (simp; done) | (simp; omega) | (simp at *; omega))) | with_reducible refine ch_trans ?_ (by with_reducible assumption))), by rw [HE.out.1]; exact (Got.nil _ 0 9 1).strs (cs := []), by rw [HE.out.2]; exact (Got.nil _ 0 9 1).strs (cs := [])⟩
  obtain ⟨hcr, i, hti, hit, hte⟩ : catRight ts ∧ ∃ i : Nat, tabAt ts s = i ∧ ∃ h : i < ts.length, t = ts[i] := by
    rcases HTO.out with ⟨h1, i, h2, h3, h4, _⟩ | ⟨_, _, h⟩
    · exact ⟨h1, i, h2, h3, h4⟩
    · cases h
  have hrf := right_few (hcr.2.1 i hit)
  rw [← hte] at hrf
  obtain ⟨⟨hf1, hf2⟩, hc1, hk1⟩ := hrf
  have HTI : Hid (∃ h : i < ts.length, t = ts[i]) := ⟨hit, hte⟩
  have HAT : Hid (tabAt ts s = i) := hti
  clear HTO hcr hti hte
  obtain ⟨w2, hw2⟩ : ∃ w2, w2 = (w1.alloc (.cells #[.string t.name, .slice xa xn xp, .slice ya yn yp] 47)).alloc (.cells #[] 9) := ⟨_, rfl⟩
  have hb12 : Below w1.heap.size w1 w2 := by rw [hw2]; exact (by repeat (first | with_reducible exact Below.refl _ _ | with_reducible assumption | with_reducible refine ch_alloc ?_ _ | with_reducible refine Below.drew ?_ | with_reducible refine below_draws _ ?_ | (with_reducible refine Below.setCell ?_ ?_ _; rotate_left; focus (first | with_reducible exact Nat.le_refl _ | (simp; done) | (simp; omega) | (simp at *; omega))) | with_reducible refine ch_trans ?_ (by with_reducible assumption)))
  have HT2 : Hid (Own w2 w1.heap.size 47 #[.string t.name, .slice xa xn xp, .slice ya yn yp]) := by rw [hw2]; exact (Own.new _ _ _).on (ch_alloc (Below.refl _ _) _)
  have HE2 : Hid (Got w2 (w1.heap.size + 1) 9 1 (.slice (some ⟨w1.heap.size + 1, 0, none⟩) 0 0) []) := by rw [hw2]; exact Got.emptyAt _ _ _ (by simp)
  have hz2 : w2.heap.size = w1.heap.size + 2 := by rw [hw2]; simp
  have HL2 := HL1.on hb12
  have HG2 : Hid (TabG w2 w.heap.size #[.string t.name, .slice xa xn xp, .slice ya yn yp] t) := HG.out.on hb12
  have hb2 := ch_trans hb1 hb12
  have hlw := cell_lt l0
  clear HG HL1
  go_wp2_with fail
  rw [← hw2]
  clear hw2 hb12
  refine (dbOk_spec _ _ ts ds _ (HC.out.on hb2) (HD.out.on hb2) HF.out).mono ?_
  rintro e w3 ⟨q, rfl, hq, b3⟩
  have HQ : Hid (q = true ↔ dbRight ts ds) := hq
  have HT3 : Hid (Own w3 w1.heap.size 47 #[.string t.name, .slice xa xn xp, .slice ya yn yp]) := HT2.out.on b3
  have HE3 : Hid (Got w3 (w1.heap.size + 1) 9 1 (.slice (some ⟨w1.heap.size + 1, 0, none⟩) 0 0) []) := HE2.out.on b3
  have HG3 : Hid (TabG w3 w.heap.size #[.string t.name, .slice xa xn xp, .slice ya yn yp] t) := HG2.out.on b3
  have hb3 := ch_trans hb2 b3
  have hz3 : w1.heap.size + 2 ≤ w3.heap.size := by rw [← hz2]; exact b3.size
  have hsw : w.heap.size ≤ w1.heap.size := hb1.size
  clear b3 hq HT2 HE2 HG2 hb2 hz2 HL2 l0 l1
  cases q
  · have HE : Hid (cs = [] ∧ ks = []) := by
      show _ ∧ _
      rcases HRS.out with ⟨h, _⟩ | ⟨_, h⟩
      · have := HQ.out.2 h; cases this
      · exact h
    clear HRS HQ HG3 HT3 HE3
    go_wp2
    go_ret2
    exact ⟨_, _, rfl, hb3, by rw [HE.out.1]; exact (Got.nil _ 0 9 1).strs (cs := []), by rw [HE.out.2]; exact (Got.nil _ 0 9 1).strs (cs := [])⟩
  have HE : Hid (cs = colNames t ∧ ks = t.keys) := by
    show _ ∧ _
    have hr : dbRight ts ds := HQ.out.1 (by trivial)
    obtain ⟨hit, hte⟩ := HTI.out
    exact names_unique HRS.out (Or.inl ⟨hr, i, HAT.out, hit, by rw [hte], by rw [hte]⟩)
  clear HRS HQ HTI HAT
  obtain ⟨_, _, ee, hgc, hgk⟩ := HG3.out
  simp at ee
  obtain ⟨rfl, rfl⟩ := ee
  obtain ⟨_, _, e1, hx1, hx2, _⟩ := hgc.row
  injection e1 with e11 e12 e13
  obtain ⟨_, _, e2, hy1, hy2, _⟩ := hgk.row
  injection e2 with e21 e22 e23
  rw [List.length_map] at e12 e22
  subst e12 e22
  have HCV : Hid (ColsV w3 (.slice xa t.cols.length xp) t.cols ∧ StrsV w3 (.slice ya t.keys.length yp) t.keys) := ⟨hgc.cols, hgk.strs⟩
  have hxp : t.cols.length ≤ xp ∧ xp ≤ maxLen := by
    obtain ⟨_, _, e, h1, h2, _⟩ := HCV.out.1.lit
    cases e; exact ⟨h1, h2⟩
  have hyp : t.keys.length ≤ yp ∧ yp ≤ maxLen := by
    obtain ⟨_, _, e, h1, h2, _⟩ := HCV.out.2.lit
    cases e; exact ⟨h1, h2⟩
  obtain ⟨hxp1, hxp2⟩ := hxp
  obtain ⟨hyp1, hyp2⟩ := hyp
  unfold maxLen at hxp2 hyp2
  have HGC : Hid (Got w3 w.heap.size 66 7 (.slice xa t.cols.length xp) (t.cols.map Cl.cells) ∧ Got w3 w.heap.size 9 1 (.slice ya t.keys.length yp) (t.keys.map strX)) := ⟨hgc, hgk⟩
  clear hgc hgk hx1 hx2 hy1 hy2 HG3 e11 e13 e21 e23
  obtain ⟨t0, t1, t2⟩ := HT3.out.loc.three
  go_wp2
  go_loopw [8, 29] (fun v j wr => ∃ k : Nat, k ≤ t.cols.length ∧ j = .int .i64 (k : Int) ∧ Hid (Below (w1.heap.size + 1) w3 wr ∧ w1.heap.size + 2 ≤ wr.heap.size) ∧ Hid (Got wr (w1.heap.size + 1) 9 1 v (((colNames t).take k).map strX)) ) (fun _ j _ => t.cols.length - (intOf j).toNat)
  case atStart => exact ⟨0, Nat.zero_le _, rfl, ⟨Below.refl _ _, hz3⟩, by show Got _ _ _ _ _ _; simpa using HE3.out⟩
  case round =>
    clear HCV HE3
    obtain ⟨k, hk, rfl, HB, HGk⟩ := hrel
    obtain ⟨a9, n9, cap9, rfl, hg9⟩ := HGk.out.lit2
    have HG1 : Hid (Got wr (w1.heap.size + 1) 9 1 (.slice a9 n9 cap9) (((colNames t).take k).map strX)) := hg9
    clear HGk hg9
    by_cases hkt : k < t.cols.length
    · have hlti2 : (k : Int) < t.cols.length := by omega
      obtain ⟨b', off', e9, f0, f1, f2, f3, f4, f5, f6⟩ := (HGC.out.1.low HB.out.1 HXY.out.1).cols.rowAt.cols k hkt
      subst e9
      have HEQ : Hid (((colNames t).take k).map strX ++ [#[.string t.cols[k].name]] = ((colNames t).take (k + 1)).map strX) := by
        show _ = _
        rw [List.take_succ_eq_append_getElem (by simpa [colNames] using hkt), List.map_append]
        simp [colNames]
      have hlk : (((colNames t).take k).map strX).length ≤ 1048576 := by simp [colNames]; omega
      have hsz : w1.heap.size + 2 ≤ wr.heap.size := HB.out.2
      generalize ((colNames t).take k).map strX = T0 at HG1 HEQ hlk
      go_wp2_with (at_builtin; refine app_one rfl (.tmp 33) (.tmp 36) rfl Try.underlying29 infoStr rfl (by decide) (by decide) (w1.heap.size + 1) _ T0 rfl (HG1.out.on (by repeat (first | with_reducible exact Below.refl _ _ | with_reducible assumption | with_reducible refine ch_alloc ?_ _ | with_reducible refine Below.drew ?_ | with_reducible refine below_draws _ ?_ | (with_reducible refine Below.setCell ?_ ?_ _; rotate_left; focus (first | with_reducible exact Nat.le_refl _ | (simp; done) | (simp; omega) | (simp at *; omega))) | with_reducible refine ch_trans ?_ (by with_reducible assumption)))) (wr.heap.size + 1) 1 #[.string t.cols[k].name] rfl (Own.at (wr.alloc _) _ _ (by simp)).loc rfl (str_all _) (by omega) (by simp; omega) ?_; intro v3 w4 hg4 hb4)
      have HG4 : Hid (Got w4 (w1.heap.size + 1) 9 1 v3 (((colNames t).take (k + 1)).map strX)) := by
        show Got _ _ _ _ _ _
        rw [← HEQ.out]; exact hg4
      have hb34 := (Below.mono (ch_alloc (ch_alloc (Below.refl _ _) _) _) (show w1.heap.size + 1 ≤ wr.heap.size by omega)).trans hb4
      have HB4 : Hid (Below (w1.heap.size + 1) w3 w4 ∧ w1.heap.size + 2 ≤ w4.heap.size) := ⟨HB.out.1.trans hb34, Nat.le_trans hsz hb34.size⟩
      clear hg4 hb4 hb34
      go_round
      case rel => exact ⟨k + 1, by omega, by go_num, HB4, HG4⟩
      case measure => simp [intOf]; omega
    · have hlti2 : (t.cols.length : Int) ≤ k := by omega
      have HG9 : Hid (Got wr (w1.heap.size + 1) 9 1 (.slice a9 n9 cap9) ((colNames t).map strX)) := by
        show Got _ _ _ _ _ _
        have := HG1.out
        rwa [List.take_of_length_le (by simp [colNames]; omega)] at this
      have hgk := HGC.out.2.low HB.out.1 HXY.out.2
      obtain ⟨g, rfl⟩ : ∃ g, ya = some ⟨g, 0, none⟩ := by
        rcases hgk.2.2 with ⟨e, _⟩ | ⟨g, cap, cur, e, _⟩
        · injection e with _ h _; omega
        · injection e with e _ _; exact ⟨g, e⟩
      have HKR : Hid (RowAt wr (some ⟨g, 0, none⟩) 1 (t.keys.map strX)) := by
        obtain ⟨_, _, e, _, _, h, _⟩ := hgk.row
        injection e with e _ _
        subst e; exact h
      have hO : Own wr w1.heap.size 47 #[.string t.name, .slice xa t.cols.length xp, .slice (some ⟨g, 0, none⟩) t.keys.length yp] := (HB.out.1.block _ (Nat.lt_succ_self _)).trans HT3.out
      obtain ⟨s0, s1, s2⟩ := hO.loc.three
      clear hO
      have hsz : w1.heap.size + 2 ≤ wr.heap.size := HB.out.2
      have hlt9 : w1.heap.size < wr.heap.size := by omega
      clear hgk t0 t1 t2
      go_wp2_with (at_builtin; refine app_lot rfl (.tmp 40) (.tmp 42) rfl Try.underlying29 infoStr rfl (by decide) (by decide) wr.heap.size _ [] rfl (Got.empty wr _ _) g 0 yp (t.keys.map strX) t.keys.length (by simp) rfl (HKR.out.on (ch_alloc (Below.refl _ _) _)) (strs_one t.keys) (by simp; omega) (by simp) ?_; intro v5 w5 hg5 hb5)
      have HK5 : Hid (StrsV w5 v5 t.keys) := by
        have := hg5
        rw [List.nil_append] at this
        exact this.strs
      have hb35 := ((ch_alloc (Below.refl _ _) _).trans hb5 : Below wr.heap.size wr w5)
      have HC5 : Hid (StrsV w5 (.slice a9 n9 cap9) (colNames t)) := (HG9.out.on hb35).strs
      have HB5 : Hid (Below w.heap.size w w5) := hb3.trans ((HB.out.1.mono (by omega)).trans (hb35.mono (by omega)))
      clear hg5 hb5 hb35
      go_wp2
      go_ret2
      exact ⟨_, _, rfl, HB5.out, by rw [HE.out.1]; exact HC5.out, by rw [HE.out.2]; exact HK5.out⟩
end Go.Proofs.Ytiijahoheajppab
