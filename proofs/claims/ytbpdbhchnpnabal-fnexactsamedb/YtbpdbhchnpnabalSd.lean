/- Whether stores are the same: slices.EqualFunc; given and landed. -/
import Derived.Test.YtbpdbhchnpnabalDbO
import Derived.Test.YtbpdbhchnpnabalSameS
import Derived.Test.YtbpdbhchnpnabalSameR
namespace Go.Proofs.Ytbpdbhchnpnabal
open Go.ChangeShapes Go.WideShapes Go.ChangeAt Go.RowKit

/-- Tables that are right and equal. -/
def sameTs (cs ds : List Tc) : Prop := cs.length = ds.length ∧ ∀ i (h : i < cs.length) (g : i < ds.length), sameT cs[i] ds[i]
/-- Stores that are right and equal. -/
def sameDbs (ts : List Tc) (ds : List (List (List Vc))) (ts' : List Tc) (ds' : List (List (List Vc))) : Prop := dbRight ts ds ∧ dbRight ts' ds' ∧ sameTs ts ts' ∧ ds = ds'

set_option maxRecDepth 100000 in
/-- impl.sameData -/
theorem sameData_impl (av bv : Value) (cs ds : List (List Vc)) (w : World) (ha : RowsV w av cs) (hb : RowsV w bv ds) : Calls Try.prog 29 #[.agg #[av], .agg #[bv]] w fun e w' => ∃ q : Bool, e = .returned (.bool q) ∧ (q = true ↔ cs = ds) ∧ Below w.heap.size w w' := by
  obtain ⟨a, cap, rfl, hl, hm, ha⟩ := ha.lit
  obtain ⟨a', cap', rfl, hl', hm', hb⟩ := hb.lit
  have HC : Hid (RowsV w (.slice a cs.length cap) cs) := ha
  have HC' : Hid (RowsV w (.slice a' ds.length cap') ds) := hb
  clear ha hb
  go_enter Try.func29, Try.ntmps29
  go_wp2_with fail
  refine (sameRows_impl _ _ cs ds _ (HC.out.on (by repeat (first | with_reducible exact Below.refl _ _ | with_reducible assumption | with_reducible refine ch_alloc ?_ _ | with_reducible refine Below.drew ?_ | with_reducible refine below_draws _ ?_ | (with_reducible refine Below.setCell ?_ ?_ _; rotate_left; focus (first | with_reducible exact Nat.le_refl _ | (simp; done) | (simp; omega) | (simp at *; omega))) | with_reducible refine ch_trans ?_ (by with_reducible assumption)))) (HC'.out.on (by repeat (first | with_reducible exact Below.refl _ _ | with_reducible assumption | with_reducible refine ch_alloc ?_ _ | with_reducible refine Below.drew ?_ | with_reducible refine below_draws _ ?_ | (with_reducible refine Below.setCell ?_ ?_ _; rotate_left; focus (first | with_reducible exact Nat.le_refl _ | (simp; done) | (simp; omega) | (simp at *; omega))) | with_reducible refine ch_trans ?_ (by with_reducible assumption))))).mono ?_
  rintro e w1 ⟨q, rfl, hq, b1⟩
  have HQ : Hid (q = true ↔ cs = ds) := hq
  clear hq
  go_wp2
  go_ret
  exact ⟨_, rfl, HQ.out, (by repeat (first | with_reducible exact Below.refl _ _ | with_reducible assumption | with_reducible refine ch_alloc ?_ _ | with_reducible refine Below.drew ?_ | with_reducible refine below_draws _ ?_ | (with_reducible refine Below.setCell ?_ ?_ _; rotate_left; focus (first | with_reducible exact Nat.le_refl _ | (simp; done) | (simp; omega) | (simp at *; omega))) | with_reducible refine ch_trans ?_ (by with_reducible assumption)))⟩

set_option maxRecDepth 100000 in
set_option maxHeartbeats 2000000 in
/-- slices.EqualFunc over rows, by sameRow -/
theorem equalData (av bv : Value) (cs ds : List (List (List Vc))) (w : World) (ha : DataV w av cs) (hb : DataV w bv ds) : Calls Try.prog 28 #[av, bv, .func (.func 29) #[] #[]] w fun e w' => ∃ q : Bool, e = .returned (.bool q) ∧ (q = true ↔ cs = ds) ∧ Below w.heap.size w w' := by
  obtain ⟨a, cap, rfl, hl, hm, ha⟩ := ha.lit
  obtain ⟨a', cap', rfl, hl', hm', hb⟩ := hb.lit
  unfold maxLen at hm hm'
  have HC : Hid (DataV w (.slice a cs.length cap) cs) := ha
  have HC' : Hid (DataV w (.slice a' ds.length cap') ds) := hb
  clear ha hb
  by_cases hn : cs.length = ds.length
  · have hni : ((cs.length : Int) != (ds.length : Int)) = false := by simp; omega
    have hnj : ((cs.length : Int) == (ds.length : Int)) = true := by simp; omega
    have HNL : Hid (cs.length = ds.length) := hn
    clear hn
    go_enter Try.func28, Try.ntmps28
    go_wp2
    go_loopw [17] (fun i wr => ∃ k : Nat, k ≤ cs.length ∧ i = .int .i64 k ∧ Below w.heap.size w wr ∧ Hid (∀ i (h : i < cs.length) (g : i < ds.length), i < k → cs[i] = ds[i])) (fun i _ => cs.length - (intOf i).toNat)
    case atStart => exact ⟨0, Nat.zero_le _, rfl, (by repeat (first | with_reducible exact Below.refl _ _ | with_reducible assumption | with_reducible refine ch_alloc ?_ _ | with_reducible refine Below.drew ?_ | with_reducible refine below_draws _ ?_ | (with_reducible refine Below.setCell ?_ ?_ _; rotate_left; focus (first | with_reducible exact Nat.le_refl _ | (simp; done) | (simp; omega) | (simp at *; omega))) | with_reducible refine ch_trans ?_ (by with_reducible assumption))), fun i h g hi => by omega⟩
    case round =>
      obtain ⟨k, hk, rfl, hb, HN⟩ := hrel
      by_cases hlt : k < cs.length
      · have hlti : (k : Int) < cs.length := by omega
        have hlt' : k < ds.length := by have := HNL.out; omega
        have hlti' : (k : Int) < ds.length := by omega
        obtain ⟨b, off, c, p, rfl, c0, hx⟩ := (HC.out.on hb).rw k hlt
        obtain ⟨b', off', c', p', rfl, d0, hx'⟩ := (HC'.out.on (w' := wr.alloc (.cells #[.slice c cs[k].length p] 71)) (ch_alloc hb _)).rw k hlt'
        have HXX : Hid (RowsV wr (.slice c cs[k].length p) cs[k] ∧ RowsV (wr.alloc (.cells #[.slice c cs[k].length p] 71)) (.slice c' ds[k].length p') ds[k]) := ⟨hx, hx'⟩
        clear hx hx'
        go_wp2_with fail
        refine (sameData_impl _ _ cs[k] ds[k] _ (HXX.out.1.on (by repeat (first | with_reducible exact Below.refl _ _ | with_reducible assumption | with_reducible refine ch_alloc ?_ _ | with_reducible refine Below.drew ?_ | with_reducible refine below_draws _ ?_ | (with_reducible refine Below.setCell ?_ ?_ _; rotate_left; focus (first | with_reducible exact Nat.le_refl _ | (simp; done) | (simp; omega) | (simp at *; omega))) | with_reducible refine ch_trans ?_ (by with_reducible assumption)))) (HXX.out.2.on (ch_alloc (Below.refl _ _) _))).mono ?_
        rintro e w1 ⟨q, rfl, hq, b1⟩
        cases q
        · have HB : Hid (cs ≠ ds) := fun e => by have := hq.2 (by subst e; rfl); cases this
          clear hq
          go_wp2
          go_ret
          exact ⟨_, rfl, ⟨fun h => by simp at h, fun h => absurd h HB.out⟩, (by repeat (first | with_reducible exact Below.refl _ _ | with_reducible assumption | with_reducible refine ch_alloc ?_ _ | with_reducible refine Below.drew ?_ | with_reducible refine below_draws _ ?_ | (with_reducible refine Below.setCell ?_ ?_ _; rotate_left; focus (first | with_reducible exact Nat.le_refl _ | (simp; done) | (simp; omega) | (simp at *; omega))) | with_reducible refine ch_trans ?_ (by with_reducible assumption)))⟩
        · have HN' : Hid (∀ i (h : i < cs.length) (g : i < ds.length), i < k + 1 → cs[i] = ds[i]) := fun i h g hi => by
            by_cases e : i = k
            · subst e; exact hq.1 rfl
            · exact HN.out i h g (by omega)
          clear hq
          go_wp2
          go_round
          case rel => exact ⟨k + 1, by omega, by go_num, (by repeat (first | with_reducible exact Below.refl _ _ | with_reducible assumption | with_reducible refine ch_alloc ?_ _ | with_reducible refine Below.drew ?_ | with_reducible refine below_draws _ ?_ | (with_reducible refine Below.setCell ?_ ?_ _; rotate_left; focus (first | with_reducible exact Nat.le_refl _ | (simp; done) | (simp; omega) | (simp at *; omega))) | with_reducible refine ch_trans ?_ (by with_reducible assumption))), HN'⟩
          case measure => simp [intOf]; omega
      · have hlti : (cs.length : Int) ≤ k := by omega
        have HY : Hid (cs = ds) := List.ext_getElem HNL.out fun i h g => HN.out i h g (by omega)
        go_wp2
        go_ret
        exact ⟨_, rfl, ⟨fun _ => HY.out, fun _ => rfl⟩, (by repeat (first | with_reducible exact Below.refl _ _ | with_reducible assumption | with_reducible refine ch_alloc ?_ _ | with_reducible refine Below.drew ?_ | with_reducible refine below_draws _ ?_ | (with_reducible refine Below.setCell ?_ ?_ _; rotate_left; focus (first | with_reducible exact Nat.le_refl _ | (simp; done) | (simp; omega) | (simp at *; omega))) | with_reducible refine ch_trans ?_ (by with_reducible assumption)))⟩
  · have HN : Hid (cs ≠ ds) := fun e => hn (by rw [e])
    have hni : ((cs.length : Int) != (ds.length : Int)) = true := by simp; omega
    clear hn
    go_enter Try.func28, Try.ntmps28
    go_wp2
    go_ret
    exact ⟨_, rfl, ⟨fun h => by simp at h, fun h => absurd h HN.out⟩, (by repeat (first | with_reducible exact Below.refl _ _ | with_reducible assumption | with_reducible refine ch_alloc ?_ _ | with_reducible refine Below.drew ?_ | with_reducible refine below_draws _ ?_ | (with_reducible refine Below.setCell ?_ ?_ _; rotate_left; focus (first | with_reducible exact Nat.le_refl _ | (simp; done) | (simp; omega) | (simp at *; omega))) | with_reducible refine ch_trans ?_ (by with_reducible assumption)))⟩

set_option maxRecDepth 100000 in
set_option maxHeartbeats 1000000 in
/-- slices.EqualFunc of tables -/
theorem equalTabs (av bv : Value) (cs ds : List Tc) (w : World) (ha : TabsV w av cs) (hb : TabsV w bv ds) (hf : fits cs) (hg : fits ds) : Calls Try.prog 26 #[av, bv, .func (.func 27) #[] #[]] w fun e w' => ∃ q : Bool, e = .returned (.bool q) ∧ (q = true ↔ sameTs cs ds) ∧ Below w.heap.size w w' := by
  obtain ⟨a, cap, rfl, hl, hm⟩ := ha.lit
  obtain ⟨a', cap', rfl, hl', hm'⟩ := hb.lit
  unfold maxLen at hm hm'
  have HC : Hid (TabsV w (.slice a cs.length cap) cs) := ha
  have HC' : Hid (TabsV w (.slice a' ds.length cap') ds) := hb
  have HF : Hid (fits cs ∧ fits ds) := ⟨hf, hg⟩
  clear ha hb hf hg
  by_cases hn : cs.length = ds.length
  · have hni : ((cs.length : Int) != (ds.length : Int)) = false := by simp; omega
    have hnj : ((cs.length : Int) == (ds.length : Int)) = true := by simp; omega
    have HNL : Hid (cs.length = ds.length) := hn
    clear hn
    go_enter Try.func26, Try.ntmps26
    go_wp2
    go_loopw [17] (fun i wr => ∃ k : Nat, k ≤ cs.length ∧ i = .int .i64 k ∧ Below w.heap.size w wr ∧ Hid (∀ i (h : i < cs.length) (g : i < ds.length), i < k → sameT cs[i] ds[i])) (fun i _ => cs.length - (intOf i).toNat)
    case atStart => exact ⟨0, Nat.zero_le _, rfl, (by repeat (first | with_reducible exact Below.refl _ _ | with_reducible assumption | with_reducible refine ch_alloc ?_ _ | with_reducible refine Below.drew ?_ | with_reducible refine below_draws _ ?_ | (with_reducible refine Below.setCell ?_ ?_ _; rotate_left; focus (first | with_reducible exact Nat.le_refl _ | (simp; done) | (simp; omega) | (simp at *; omega))) | with_reducible refine ch_trans ?_ (by with_reducible assumption))), fun i h g hi => by omega⟩
    case round =>
      obtain ⟨k, hk, rfl, hb, HN⟩ := hrel
      by_cases hlt : k < cs.length
      · have hlti : (k : Int) < cs.length := by omega
        have hlt' : k < ds.length := by have := HNL.out; omega
        have hlti' : (k : Int) < ds.length := by omega
        obtain ⟨b, off, c1, p1, c2, p2, rfl, x0, x1, x2, hx⟩ := (HC.out.on hb).tab k hlt
        obtain ⟨b', off', c1', p1', c2', p2', rfl, y0, y1, y2, hx'⟩ := (HC'.out.on (w' := wr.alloc (.cells #[.string cs[k].name, .slice c1 cs[k].cols.length p1, .slice c2 cs[k].keys.length p2] 67)) (ch_alloc hb _)).tab k hlt'
        have HXX : Hid (TabV wr #[.string cs[k].name, .slice c1 cs[k].cols.length p1, .slice c2 cs[k].keys.length p2] cs[k] ∧ TabV (wr.alloc (.cells #[.string cs[k].name, .slice c1 cs[k].cols.length p1, .slice c2 cs[k].keys.length p2] 67)) #[.string ds[k].name, .slice c1' ds[k].cols.length p1', .slice c2' ds[k].keys.length p2'] ds[k]) := ⟨hx, hx'⟩
        clear hx hx'
        go_wp2_with fail
        refine (same_impl _ _ cs[k] ds[k] _ (HXX.out.1.on (by repeat (first | with_reducible exact Below.refl _ _ | with_reducible assumption | with_reducible refine ch_alloc ?_ _ | with_reducible refine Below.drew ?_ | with_reducible refine below_draws _ ?_ | (with_reducible refine Below.setCell ?_ ?_ _; rotate_left; focus (first | with_reducible exact Nat.le_refl _ | (simp; done) | (simp; omega) | (simp at *; omega))) | with_reducible refine ch_trans ?_ (by with_reducible assumption)))) (HXX.out.2.on (ch_alloc (Below.refl _ _) _)) (HF.out.1 _ (List.getElem_mem hlt)) (HF.out.2 _ (List.getElem_mem hlt'))).mono ?_
        rintro e w1 ⟨q, rfl, hq, b1⟩
        cases q
        · have HB : Hid (¬ sameTs cs ds) := fun e => by have := hq.2 (e.2 k hlt hlt'); cases this
          clear hq
          go_wp2
          go_ret
          exact ⟨_, rfl, ⟨fun h => by simp at h, fun h => absurd h HB.out⟩, (by repeat (first | with_reducible exact Below.refl _ _ | with_reducible assumption | with_reducible refine ch_alloc ?_ _ | with_reducible refine Below.drew ?_ | with_reducible refine below_draws _ ?_ | (with_reducible refine Below.setCell ?_ ?_ _; rotate_left; focus (first | with_reducible exact Nat.le_refl _ | (simp; done) | (simp; omega) | (simp at *; omega))) | with_reducible refine ch_trans ?_ (by with_reducible assumption)))⟩
        · have HN' : Hid (∀ i (h : i < cs.length) (g : i < ds.length), i < k + 1 → sameT cs[i] ds[i]) := fun i h g hi => by
            by_cases e : i = k
            · subst e; exact hq.1 rfl
            · exact HN.out i h g (by omega)
          clear hq
          go_wp2
          go_round
          case rel => exact ⟨k + 1, by omega, by go_num, (by repeat (first | with_reducible exact Below.refl _ _ | with_reducible assumption | with_reducible refine ch_alloc ?_ _ | with_reducible refine Below.drew ?_ | with_reducible refine below_draws _ ?_ | (with_reducible refine Below.setCell ?_ ?_ _; rotate_left; focus (first | with_reducible exact Nat.le_refl _ | (simp; done) | (simp; omega) | (simp at *; omega))) | with_reducible refine ch_trans ?_ (by with_reducible assumption))), HN'⟩
          case measure => simp [intOf]; omega
      · have hlti : (cs.length : Int) ≤ k := by omega
        have HY : Hid (sameTs cs ds) := ⟨HNL.out, fun i h g => HN.out i h g (by omega)⟩
        go_wp2
        go_ret
        exact ⟨_, rfl, ⟨fun _ => HY.out, fun _ => rfl⟩, (by repeat (first | with_reducible exact Below.refl _ _ | with_reducible assumption | with_reducible refine ch_alloc ?_ _ | with_reducible refine Below.drew ?_ | with_reducible refine below_draws _ ?_ | (with_reducible refine Below.setCell ?_ ?_ _; rotate_left; focus (first | with_reducible exact Nat.le_refl _ | (simp; done) | (simp; omega) | (simp at *; omega))) | with_reducible refine ch_trans ?_ (by with_reducible assumption)))⟩
  · have HN : Hid (¬ sameTs cs ds) := fun e => hn e.1
    have hni : ((cs.length : Int) != (ds.length : Int)) = true := by simp; omega
    clear hn
    go_enter Try.func26, Try.ntmps26
    go_wp2
    go_ret
    exact ⟨_, rfl, ⟨fun h => by simp at h, fun h => absurd h HN.out⟩, (by repeat (first | with_reducible exact Below.refl _ _ | with_reducible assumption | with_reducible refine ch_alloc ?_ _ | with_reducible refine Below.drew ?_ | with_reducible refine below_draws _ ?_ | (with_reducible refine Below.setCell ?_ ?_ _; rotate_left; focus (first | with_reducible exact Nat.le_refl _ | (simp; done) | (simp; omega) | (simp at *; omega))) | with_reducible refine ch_trans ?_ (by with_reducible assumption)))⟩

set_option maxRecDepth 100000 in
set_option maxHeartbeats 4000000 in
/-- impl.SameDb -/
theorem sameDb_impl (cv dv cv' dv' : Value) (ts ts' : List Tc) (ds ds' : List (List (List Vc))) (w : World) (hc : TabsV w cv ts) (hd : DataV w dv ds) (hc' : TabsV w cv' ts') (hd' : DataV w dv' ds') (hf : fits ts) (hf' : fits ts') :
    Calls Try.prog 9 #[.agg #[cv, dv], .agg #[cv', dv']] w fun e w' => ∃ q : Bool, e = .returned (.bool q) ∧ (q = true ↔ sameDbs ts ds ts' ds') ∧ Below w.heap.size w w' := by
  obtain ⟨qz, hqz⟩ := bool_of (sameDbs ts ds ts' ds')
  suffices H : Calls Try.prog 9 #[.agg #[cv, dv], .agg #[cv', dv']] w fun e w' => e = .returned (.bool qz) ∧ Below w.heap.size w w' from H.mono fun e w' ⟨h1, h2⟩ => ⟨qz, h1, hqz, h2⟩
  obtain ⟨a, p, rfl, _, _⟩ := hc.lit
  obtain ⟨b, q, rfl, _, _, _⟩ := hd.lit
  obtain ⟨a', p', rfl, _, _⟩ := hc'.lit
  obtain ⟨b', q', rfl, _, _, _⟩ := hd'.lit
  obtain ⟨q1, h1⟩ := bool_of (dbRight ts ds)
  obtain ⟨q2, h2⟩ := bool_of (dbRight ts' ds')
  obtain ⟨q3, h3⟩ := bool_of (sameTs ts ts')
  obtain ⟨q4, h4⟩ := bool_of (ds = ds')
  have HR : Hid (qz = (q1 && q2 && q3 && q4)) := by
    show _ = _
    rw [Bool.eq_iff_iff, hqz]
    simp only [Bool.and_eq_true, h1, h2, h3, h4, sameDbs, and_assoc]
  have H1 : Hid (∀ u : World, Below w.heap.size w u → Calls Try.prog 25 #[.agg #[.slice a ts.length p, .slice b ds.length q]] u fun e w' => e = .returned (.bool q1) ∧ Below u.heap.size u w') := fun u hu => (dbOk_impl _ _ ts ds u (hc.on hu) (hd.on hu) hf).mono fun e w' ⟨q, g1, g2, g3⟩ => ⟨by rw [g1, Bool.eq_iff_iff.2 (g2.trans h1.symm)], g3⟩
  have H2 : Hid (∀ u : World, Below w.heap.size w u → Calls Try.prog 25 #[.agg #[.slice a' ts'.length p', .slice b' ds'.length q']] u fun e w' => e = .returned (.bool q2) ∧ Below u.heap.size u w') := fun u hu => (dbOk_impl _ _ ts' ds' u (hc'.on hu) (hd'.on hu) hf').mono fun e w' ⟨q, g1, g2, g3⟩ => ⟨by rw [g1, Bool.eq_iff_iff.2 (g2.trans h2.symm)], g3⟩
  have H3 : Hid (∀ u : World, Below w.heap.size w u → Calls Try.prog 26 #[.slice a ts.length p, .slice a' ts'.length p', .func (.func 27) #[] #[]] u fun e w' => e = .returned (.bool q3) ∧ Below u.heap.size u w') := fun u hu => (equalTabs _ _ ts ts' u (hc.on hu) (hc'.on hu) hf hf').mono fun e w' ⟨q, g1, g2, g3⟩ => ⟨by rw [g1, Bool.eq_iff_iff.2 (g2.trans h3.symm)], g3⟩
  have H4 : Hid (∀ u : World, Below w.heap.size w u → Calls Try.prog 28 #[.slice b ds.length q, .slice b' ds'.length q', .func (.func 29) #[] #[]] u fun e w' => e = .returned (.bool q4) ∧ Below u.heap.size u w') := fun u hu => (equalData _ _ ds ds' u (hd.on hu) (hd'.on hu)).mono fun e w' ⟨q, g1, g2, g3⟩ => ⟨by rw [g1, Bool.eq_iff_iff.2 (g2.trans h4.symm)], g3⟩
  have HL := Loc.new w #[.slice a ts.length p, .slice b ds.length q] 35
  have HM := Loc.new (w.alloc (.cells #[.slice a ts.length p, .slice b ds.length q] 35)) #[.slice a' ts'.length p', .slice b' ds'.length q'] 35
  rw [show (w.alloc (.cells #[.slice a ts.length p, .slice b ds.length q] 35)).heap.size = w.heap.size + 1 from by simp] at HM
  have HL' := HL.on1 (.cells #[.slice a' ts'.length p', .slice b' ds'.length q'] 35)
  have hbv : Below w.heap.size w ((w.alloc (.cells #[.slice a ts.length p, .slice b ds.length q] 35)).alloc (.cells #[.slice a' ts'.length p', .slice b' ds'.length q'] 35)) := (by repeat (first | with_reducible exact Below.refl _ _ | with_reducible assumption | with_reducible refine ch_alloc ?_ _ | with_reducible refine Below.drew ?_ | with_reducible refine below_draws _ ?_ | (with_reducible refine Below.setCell ?_ ?_ _; rotate_left; focus (first | with_reducible exact Nat.le_refl _ | (simp; done) | (simp; omega) | (simp at *; omega))) | with_reducible refine ch_trans ?_ (by with_reducible assumption)))
  obtain ⟨l0, l1⟩ := HL'.two
  obtain ⟨m0, m1⟩ := HM.two
  clear hc hd hc' hd' hf hf' h1 h2 h3 h4 hqz HL HM HL'
  go_enter Try.func9, Try.ntmps9
  go_wp2_with fail
  generalize (w.alloc (.cells #[.slice a ts.length p, .slice b ds.length q] 35)).alloc (.cells #[.slice a' ts'.length p', .slice b' ds'.length q'] 35) = wv at l0 l1 m0 m1 hbv ⊢
  refine (H1.out _ hbv).mono ?_
  rintro e w1 ⟨rfl, b1⟩
  have hb1 := ch_trans hbv b1
  have l01 := cell_on l0 b1
  have l11 := cell_on l1 b1
  have m01 := cell_on m0 b1
  have m11 := cell_on m1 b1
  clear b1 hbv l0 l1 m0 m1
  cases q1
  · go_wp2
    go_ret
    exact ⟨by rw [HR.out]; first | rfl | simp, hb1⟩
  go_wp2_with fail
  refine (H2.out _ hb1).mono ?_
  rintro e w2 ⟨rfl, b2⟩
  have hb2 := ch_trans hb1 b2
  have l02 := cell_on l01 b2
  have l12 := cell_on l11 b2
  have m02 := cell_on m01 b2
  have m12 := cell_on m11 b2
  clear b2 hb1 l01 l11 m01 m11
  cases q2
  · go_wp2
    go_ret
    exact ⟨by rw [HR.out]; first | rfl | simp, hb2⟩
  go_wp2_with fail
  refine (H3.out _ hb2).mono ?_
  rintro e w3 ⟨rfl, b3⟩
  have hb3 := ch_trans hb2 b3
  have l03 := cell_on l02 b3
  have l13 := cell_on l12 b3
  have m03 := cell_on m02 b3
  have m13 := cell_on m12 b3
  clear b3 hb2 l02 l12 m02 m12
  cases q3
  · go_wp2
    go_ret
    exact ⟨by rw [HR.out]; first | rfl | simp, hb3⟩
  go_wp2_with fail
  refine (H4.out _ hb3).mono ?_
  rintro e w4 ⟨rfl, b4⟩
  have hb4 := ch_trans hb3 b4
  have l04 := cell_on l03 b4
  have l14 := cell_on l13 b4
  have m04 := cell_on m03 b4
  have m14 := cell_on m13 b4
  clear b4 hb3 l03 l13 m03 m13
  cases q4
  · go_wp2
    go_ret
    exact ⟨by rw [HR.out]; first | rfl | simp, hb4⟩
  · go_wp2
    go_ret
    exact ⟨by rw [HR.out]; first | rfl | simp, hb4⟩

set_option maxRecDepth 100000 in
set_option maxHeartbeats 4000000 in
/-- spec.SameDb -/
theorem sameDb_spec (cv dv cv' dv' : Value) (ts ts' : List Tc) (ds ds' : List (List (List Vc))) (w : World) (hc : TabsV w cv ts) (hd : DataV w dv ds) (hc' : TabsV w cv' ts') (hd' : DataV w dv' ds') (hf : fits ts) (hf' : fits ts') :
    Calls Try.prog 7 #[.agg #[cv, dv], .agg #[cv', dv']] w fun e w' => ∃ q : Bool, e = .returned (.bool q) ∧ (q = true ↔ sameDbs ts ds ts' ds') ∧ Below w.heap.size w w' := by
  obtain ⟨a, p, rfl, hl, hm⟩ := hc.lit
  obtain ⟨b, q, rfl, hl2, hm2, _⟩ := hd.lit
  obtain ⟨a', p', rfl, hl', hm'⟩ := hc'.lit
  obtain ⟨b', q', rfl, hl2', hm2', _⟩ := hd'.lit
  unfold maxLen at hm hm2 hm' hm2'
  obtain ⟨q1, h1⟩ := bool_of (dbRight ts ds)
  obtain ⟨q2, h2⟩ := bool_of (dbRight ts' ds')
  have HC : Hid (TabsV w (.slice a ts.length p) ts) := hc
  have HD : Hid (DataV w (.slice b ds.length q) ds) := hd
  have HC' : Hid (TabsV w (.slice a' ts'.length p') ts') := hc'
  have HD' : Hid (DataV w (.slice b' ds'.length q') ds') := hd'
  have HF : Hid (fits ts ∧ fits ts') := ⟨hf, hf'⟩
  have HQ1 : Hid (q1 = true ↔ dbRight ts ds) := h1
  have HQ2 : Hid (q2 = true ↔ dbRight ts' ds') := h2
  have H1 : Hid (∀ u : World, Below w.heap.size w u → Calls Try.prog 20 #[.agg #[.slice a ts.length p, .slice b ds.length q]] u fun e w' => e = .returned (.bool q1) ∧ Below u.heap.size u w') := fun u hu => (dbOk_spec _ _ ts ds u (hc.on hu) (hd.on hu) hf).mono fun e w' ⟨q, g1, g2, g3⟩ => ⟨by rw [g1, Bool.eq_iff_iff.2 (g2.trans h1.symm)], g3⟩
  have H2 : Hid (∀ u : World, Below w.heap.size w u → Calls Try.prog 20 #[.agg #[.slice a' ts'.length p', .slice b' ds'.length q']] u fun e w' => e = .returned (.bool q2) ∧ Below u.heap.size u w') := fun u hu => (dbOk_spec _ _ ts' ds' u (hc'.on hu) (hd'.on hu) hf').mono fun e w' ⟨q, g1, g2, g3⟩ => ⟨by rw [g1, Bool.eq_iff_iff.2 (g2.trans h2.symm)], g3⟩
  have HL := Loc.new w #[.slice a ts.length p, .slice b ds.length q] 35
  have HM := Loc.new (w.alloc (.cells #[.slice a ts.length p, .slice b ds.length q] 35)) #[.slice a' ts'.length p', .slice b' ds'.length q'] 35
  rw [show (w.alloc (.cells #[.slice a ts.length p, .slice b ds.length q] 35)).heap.size = w.heap.size + 1 from by simp] at HM
  have HL' := HL.on1 (.cells #[.slice a' ts'.length p', .slice b' ds'.length q'] 35)
  have hbv : Below w.heap.size w ((w.alloc (.cells #[.slice a ts.length p, .slice b ds.length q] 35)).alloc (.cells #[.slice a' ts'.length p', .slice b' ds'.length q'] 35)) := (by repeat (first | with_reducible exact Below.refl _ _ | with_reducible assumption | with_reducible refine ch_alloc ?_ _ | with_reducible refine Below.drew ?_ | with_reducible refine below_draws _ ?_ | (with_reducible refine Below.setCell ?_ ?_ _; rotate_left; focus (first | with_reducible exact Nat.le_refl _ | (simp; done) | (simp; omega) | (simp at *; omega))) | with_reducible refine ch_trans ?_ (by with_reducible assumption)))
  obtain ⟨l0, l1⟩ := HL'.two
  obtain ⟨m0, m1⟩ := HM.two
  clear hc hd hc' hd' hf hf' h1 h2 HL HM HL'
  have hlen : (∃ h : ds.length = ds'.length, ((ds.length : Int) == ds'.length) = true) ∨ (∃ h : ds.length ≠ ds'.length, ((ds.length : Int) == ds'.length) = false) := by
    by_cases h : ds.length = ds'.length
    · exact Or.inl ⟨h, by simp [h]⟩
    · exact Or.inr ⟨h, beq_eq_false_iff_ne.2 (by omega)⟩
  go_enter Try.func7, Try.ntmps7
  go_wp2_with fail
  generalize (w.alloc (.cells #[.slice a ts.length p, .slice b ds.length q] 35)).alloc (.cells #[.slice a' ts'.length p', .slice b' ds'.length q'] 35) = wv at l0 l1 m0 m1 hbv ⊢
  refine (H1.out _ hbv).mono ?_
  rintro e w1 ⟨rfl, b1⟩
  have hb1 := ch_trans hbv b1
  have l01 := cell_on l0 b1
  have l11 := cell_on l1 b1
  have m01 := cell_on m0 b1
  have m11 := cell_on m1 b1
  clear b1 hbv l0 l1 m0 m1
  cases q1
  · have HB : Hid (¬ sameDbs ts ds ts' ds') := fun h => by have := HQ1.out.2 h.1; cases this
    clear HQ1 HQ2
    go_wp2
    go_ret
    exact ⟨_, rfl, ⟨fun h => by simp at h, fun h => absurd h HB.out⟩, hb1⟩
  have HR1 : Hid (dbRight ts ds) := HQ1.out.1 (by trivial)
  clear HQ1
  go_wp2_with fail
  refine (H2.out _ hb1).mono ?_
  rintro e w2 ⟨rfl, b2⟩
  have hb2 := ch_trans hb1 b2
  have l02 := cell_on l01 b2
  have l12 := cell_on l11 b2
  have m02 := cell_on m01 b2
  have m12 := cell_on m11 b2
  clear b2 hb1 l01 l11 m01 m11
  cases q2
  · have HB : Hid (¬ sameDbs ts ds ts' ds') := fun h => by have := HQ2.out.2 h.2.1; cases this
    clear HQ2
    go_wp2
    go_ret
    exact ⟨_, rfl, ⟨fun h => by simp at h, fun h => absurd h HB.out⟩, hb2⟩
  have HR2 : Hid (dbRight ts' ds') := HQ2.out.1 (by trivial)
  clear HQ2
  rcases hlen with ⟨hln, hle⟩ | ⟨hln, hle⟩
  rotate_left
  · have HB : Hid (¬ sameDbs ts ds ts' ds') := fun h => hln (by rw [h.2.2.2])
    clear hln
    go_wp2
    go_ret
    exact ⟨_, rfl, ⟨fun h => by simp at h, fun h => absurd h HB.out⟩, hb2⟩
  have HLN : Hid (ds.length = ds'.length ∧ ts.length = ts'.length ∧ ds.length = ts.length) := ⟨hln, by have g1 := HR1.out.2.1; have g2 := HR2.out.2.1; omega, HR1.out.2.1⟩
  clear hln
  go_wp2
  go_loopw [26] (fun i wr => ∃ k : Nat, k ≤ ds.length ∧ i = .int .i64 k ∧ Below w2.heap.size w2 wr ∧ Hid (∀ i (h : i < ds.length) (g : i < ds'.length) (h' : i < ts.length) (g' : i < ts'.length), i < k → sameT ts[i] ts'[i] ∧ ds[i] = ds'[i])) (fun i _ => ds.length - (intOf i).toNat)
  case atStart => exact ⟨0, Nat.zero_le _, rfl, Below.refl _ _, fun i h g h' g' hi => by omega⟩
  case round =>
    obtain ⟨k, hk, rfl, hb, HN⟩ := hrel
    have hbw : Below w.heap.size w wr := ch_trans hb2 hb
    by_cases hlt : k < ds.length
    · have hlti : (k : Int) < ds.length := by omega
      have hlt2 : k < ds'.length := by have := HLN.out; omega
      have hlt3 : k < ts.length := by have := HLN.out; omega
      have hlt4 : k < ts'.length := by have := HLN.out; omega
      have hlti2 : (k : Int) < ds'.length := by omega
      have hlti3 : (k : Int) < ts.length := by omega
      have hlti4 : (k : Int) < ts'.length := by omega
      obtain ⟨bt, offt, c1, p1, c2, p2, rfl, t0, t1, t2, hxt⟩ := (HC.out.on hbw).tab k hlt3
      obtain ⟨bt', offt', c1', p1', c2', p2', rfl, t0', t1', t2', hxt'⟩ := (HC'.out.on hbw).tab k hlt4
      obtain ⟨bd, offd, c3, p3, rfl, f0, hr⟩ := (HD.out.on hbw).rw k hlt
      obtain ⟨bd', offd', c3', p3', rfl, f0', hr'⟩ := (HD'.out.on hbw).rw k hlt2
      have l0 := cell_on l02 hb
      have l1 := cell_on l12 hb
      have m0 := cell_on m02 hb
      have m1 := cell_on m12 hb
      obtain ⟨qa, hqa⟩ := bool_of (sameT ts[k] ts'[k])
      obtain ⟨qb, hqb⟩ := bool_of (ds[k] = ds'[k])
      have HA : Hid (∀ u : World, Below wr.heap.size wr u → Calls Try.prog 21 #[.agg #[.string ts[k].name, .slice c1 ts[k].cols.length p1, .slice c2 ts[k].keys.length p2], .agg #[.string ts'[k].name, .slice c1' ts'[k].cols.length p1', .slice c2' ts'[k].keys.length p2']] u fun e w' => e = .returned (.bool qa) ∧ Below u.heap.size u w') := fun u hu => (same_spec _ _ ts[k] ts'[k] u (hxt.on hu) (hxt'.on hu) (HF.out.1 _ (List.getElem_mem hlt3)) (HF.out.2 _ (List.getElem_mem hlt4))).mono fun e w' ⟨q, g1, g2, g3⟩ => ⟨by rw [g1, Bool.eq_iff_iff.2 (g2.trans hqa.symm)], g3⟩
      have HB' : Hid (∀ u : World, Below wr.heap.size wr u → Calls Try.prog 22 #[.slice c3 ds[k].length p3, .slice c3' ds'[k].length p3'] u fun e w' => e = .returned (.bool qb) ∧ Below u.heap.size u w') := fun u hu => (sameRows_spec _ _ ds[k] ds'[k] u (hr.on hu) (hr'.on hu)).mono fun e w' ⟨q, g1, g2, g3⟩ => ⟨by rw [g1, Bool.eq_iff_iff.2 (g2.trans hqb.symm)], g3⟩
      have HNO : Hid ((qa = false ∨ qb = false) → ¬ sameDbs ts ds ts' ds') := fun h e => by
        rcases h with h | h
        · have := hqa.2 (e.2.2.1.2 k hlt3 hlt4); rw [h] at this; cases this
        · have := hqb.2 (by obtain ⟨_, _, _, e⟩ := e; subst e; rfl); rw [h] at this; cases this
      have HYES : Hid (qa = true → qb = true → ∀ i (h : i < ds.length) (g : i < ds'.length) (h' : i < ts.length) (g' : i < ts'.length), i < k + 1 → sameT ts[i] ts'[i] ∧ ds[i] = ds'[i]) := fun ha hb i h g h' g' hi => by
        by_cases e : i = k
        · subst e; exact ⟨hqa.1 ha, hqb.1 hb⟩
        · exact HN.out i h g h' g' (by omega)
      clear hqa hqb hxt hxt' hr hr'
      cases qa
      · have HB : Hid (¬ sameDbs ts ds ts' ds') := HNO.out (Or.inl rfl)
        clear HNO HYES
        go_wp2_with fail
        refine region_grown (by kernel_rfl) (by kernel_rfl) ?_
        repeat (go_big_quiet_step (first | (intro hu; go_at_call 21; exact hu.call (HA.out _ hu)) | (intro hu; go_at_call 22; exact hu.call (HB'.out _ hu)) | (intro hu; have n0 := hu.cell l0; have n1 := hu.cell l1; have n2 := hu.cell m0; have n3 := hu.cell m1; have n4 := hu.cell t0; have n5 := hu.cell t1; have n6 := hu.cell t2; have n7 := hu.cell t0'; have n8 := hu.cell t1'; have n9 := hu.cell t2'; have na := hu.cell f0; have nb := hu.cell f0'; go_simp; (try exact rfl))))
        refine wpQuiet_nil ?_
        intro w4 b4
        have b4 : Below wr.heap.size wr w4 := b4
        go_wp2
        go_ret
        exact ⟨_, rfl, ⟨fun h => by simp at h, fun h => absurd h HB.out⟩, ch_trans hbw b4⟩
      cases qb
      · have HB : Hid (¬ sameDbs ts ds ts' ds') := HNO.out (Or.inr rfl)
        clear HNO HYES
        go_wp2_with fail
        refine region_grown (by kernel_rfl) (by kernel_rfl) ?_
        repeat (go_big_quiet_step (first | (intro hu; go_at_call 21; exact hu.call (HA.out _ hu)) | (intro hu; go_at_call 22; exact hu.call (HB'.out _ hu)) | (intro hu; have n0 := hu.cell l0; have n1 := hu.cell l1; have n2 := hu.cell m0; have n3 := hu.cell m1; have n4 := hu.cell t0; have n5 := hu.cell t1; have n6 := hu.cell t2; have n7 := hu.cell t0'; have n8 := hu.cell t1'; have n9 := hu.cell t2'; have na := hu.cell f0; have nb := hu.cell f0'; go_simp; (try exact rfl))))
        refine wpQuiet_nil ?_
        intro w4 b4
        have b4 : Below wr.heap.size wr w4 := b4
        go_wp2
        go_ret
        exact ⟨_, rfl, ⟨fun h => by simp at h, fun h => absurd h HB.out⟩, ch_trans hbw b4⟩
      · have HN' : Hid (∀ i (h : i < ds.length) (g : i < ds'.length) (h' : i < ts.length) (g' : i < ts'.length), i < k + 1 → sameT ts[i] ts'[i] ∧ ds[i] = ds'[i]) := HYES.out rfl rfl
        clear HNO HYES
        go_wp2_with fail
        refine region_grown (by kernel_rfl) (by kernel_rfl) ?_
        repeat (go_big_quiet_step (first | (intro hu; go_at_call 21; exact hu.call (HA.out _ hu)) | (intro hu; go_at_call 22; exact hu.call (HB'.out _ hu)) | (intro hu; have n0 := hu.cell l0; have n1 := hu.cell l1; have n2 := hu.cell m0; have n3 := hu.cell m1; have n4 := hu.cell t0; have n5 := hu.cell t1; have n6 := hu.cell t2; have n7 := hu.cell t0'; have n8 := hu.cell t1'; have n9 := hu.cell t2'; have na := hu.cell f0; have nb := hu.cell f0'; go_simp; (try exact rfl))))
        refine wpQuiet_nil ?_
        intro w4 b4
        have b4 : Below wr.heap.size wr w4 := b4
        go_wp2
        go_round
        case rel => exact ⟨k + 1, by omega, by go_num, ch_trans hb b4, HN'⟩
        case measure => simp [intOf]; omega
    · have hlti : (ds.length : Int) ≤ k := by omega
      have HY : Hid (sameDbs ts ds ts' ds') := ⟨HR1.out, HR2.out, ⟨HLN.out.2.1, fun i h g => (HN.out i (by have := HLN.out; omega) (by have := HLN.out; omega) h g (by have := HLN.out; omega)).1⟩, List.ext_getElem HLN.out.1 fun i h g => (HN.out i h g (by have := HLN.out; omega) (by have := HLN.out; omega) (by omega)).2⟩
      go_wp2
      go_ret
      exact ⟨_, rfl, ⟨fun _ => HY.out, fun _ => rfl⟩, hbw⟩
end Go.Proofs.Ytbpdbhchnpnabal
