/- Whether lists of rows are the same: given and landed. Whether stores are the same: slices.EqualFunc; given and landed. -/
import Derived.Test.YtihilcffmdjhhalGreatSameV
import Derived.Test.YtihilcffmdjhhalGreatRs
import Derived.Deep.RegionWith
import Derived.Test.YtihilcffmdjhhalGreatDbO
import Derived.Test.YtihilcffmdjhhalGreatSameS
namespace Go.Proofs.YtihilcffmdjhhalGreat
open Go.ChangeShapes Go.WideShapes Go.ChangeAt Go.RowKit

set_option maxRecDepth 100000 in
/-- impl.sameRow -/
theorem sameRow_impl (av bv : Value) (cs ds : List Vc) (w : World) (ha : ValsV w av cs) (hb : ValsV w bv ds) : Calls Tryz.prog 154 #[.agg #[av], .agg #[bv]] w fun e w' => ∃ q : Bool, e = .returned (.bool q) ∧ (q = true ↔ cs = ds) ∧ Below w.heap.size w w' := by
  obtain ⟨a, cap, rfl, hl, hm, ha⟩ := ha.lit
  obtain ⟨a', cap', rfl, hl', hm', hb⟩ := hb.lit
  have HC : Hid (ValsV w (.slice a cs.length cap) cs) := ha
  have HC' : Hid (ValsV w (.slice a' ds.length cap') ds) := hb
  clear ha hb
  go_enter Tryz.func154, Tryz.ntmps154
  go_wp2_with fail
  refine (equalVals _ _ cs ds _ (HC.out.on (by repeat (first | with_reducible exact Below.refl _ _ | with_reducible assumption | with_reducible refine ch_alloc ?_ _ | with_reducible refine Below.drew ?_ | with_reducible refine below_draws _ ?_ | (with_reducible refine Below.setCell ?_ ?_ _; rotate_left; focus (first | with_reducible exact Nat.le_refl _ | (simp; done) | (simp; omega) | (simp at *; omega))) | with_reducible refine ch_trans ?_ (by with_reducible assumption)))) (HC'.out.on (by repeat (first | with_reducible exact Below.refl _ _ | with_reducible assumption | with_reducible refine ch_alloc ?_ _ | with_reducible refine Below.drew ?_ | with_reducible refine below_draws _ ?_ | (with_reducible refine Below.setCell ?_ ?_ _; rotate_left; focus (first | with_reducible exact Nat.le_refl _ | (simp; done) | (simp; omega) | (simp at *; omega))) | with_reducible refine ch_trans ?_ (by with_reducible assumption))))).mono ?_
  rintro e w1 ⟨q, rfl, hq, b1⟩
  go_wp2
  go_ret
  exact ⟨_, rfl, hq, (by repeat (first | with_reducible exact Below.refl _ _ | with_reducible assumption | with_reducible refine ch_alloc ?_ _ | with_reducible refine Below.drew ?_ | with_reducible refine below_draws _ ?_ | (with_reducible refine Below.setCell ?_ ?_ _; rotate_left; focus (first | with_reducible exact Nat.le_refl _ | (simp; done) | (simp; omega) | (simp at *; omega))) | with_reducible refine ch_trans ?_ (by with_reducible assumption)))⟩

set_option maxRecDepth 100000 in
set_option maxHeartbeats 2000000 in
/-- spec.SameRows -/
theorem sameRows_spec (av bv : Value) (cs ds : List (List Vc)) (w : World) (ha : RowsV w av cs) (hb : RowsV w bv ds) : Calls Tryz.prog 57 #[av, bv] w fun e w' => ∃ q : Bool, e = .returned (.bool q) ∧ (q = true ↔ cs = ds) ∧ Below w.heap.size w w' := by
  obtain ⟨a, cap, rfl, hl, hm, ha⟩ := ha.lit
  obtain ⟨a', cap', rfl, hl', hm', hb⟩ := hb.lit
  unfold maxLen at hm hm'
  have HC : Hid (RowsV w (.slice a cs.length cap) cs) := ha
  have HC' : Hid (RowsV w (.slice a' ds.length cap') ds) := hb
  clear ha hb
  by_cases hn : cs.length = ds.length
  · have hni : ((cs.length : Int) != (ds.length : Int)) = false := by simp; omega
    have HNL : Hid (cs.length = ds.length) := hn
    clear hn
    go_enter Tryz.func57, Tryz.ntmps57
    go_wp2
    go_loopw [13] (fun i wr => ∃ k : Nat, k ≤ cs.length ∧ i = .int .i64 k ∧ Below w.heap.size w wr ∧ Hid (∀ i (h : i < cs.length) (g : i < ds.length), i < k → cs[i] = ds[i])) (fun i _ => cs.length - (intOf i).toNat)
    case atStart => exact ⟨0, Nat.zero_le _, rfl, (by repeat (first | with_reducible exact Below.refl _ _ | with_reducible assumption | with_reducible refine ch_alloc ?_ _ | with_reducible refine Below.drew ?_ | with_reducible refine below_draws _ ?_ | (with_reducible refine Below.setCell ?_ ?_ _; rotate_left; focus (first | with_reducible exact Nat.le_refl _ | (simp; done) | (simp; omega) | (simp at *; omega))) | with_reducible refine ch_trans ?_ (by with_reducible assumption))), fun i h g hi => by omega⟩
    case round =>
      obtain ⟨k, hk, rfl, hb, HN⟩ := hrel
      by_cases hlt : k < cs.length
      · have hlti : (k : Int) < cs.length := by omega
        have hlt' : k < ds.length := by have := HNL.out; omega
        have hlti' : (k : Int) < ds.length := by omega
        obtain ⟨b, off, c, p, rfl, c0, hx⟩ := (HC.out.on hb).rw k hlt
        obtain ⟨b', off', c', p', rfl, d0, hx'⟩ := (HC'.out.on hb).rw k hlt'
        obtain ⟨q, HS⟩ : ∃ q : Bool, Hid ((∀ u : World, Below wr.heap.size wr u → Calls Tryz.prog 102 #[.slice c cs[k].length p, .slice c' ds[k].length p'] u fun e w' => e = .returned (.bool q) ∧ Below u.heap.size u w') ∧ (q = true ↔ cs[k] = ds[k])) := by
          by_cases he : cs[k] = ds[k]
          · exact ⟨true, fun u hu => (sameVals_spec _ _ _ _ u (hx.on hu) (hx'.on hu)).mono fun e w' ⟨q, h1, h2, h3⟩ => ⟨by rw [h1, h2.2 he], h3⟩, by simp [he]⟩
          · exact ⟨false, fun u hu => (sameVals_spec _ _ _ _ u (hx.on hu) (hx'.on hu)).mono fun e w' ⟨q, h1, h2, h3⟩ => ⟨by rw [h1, Bool.eq_false_iff.2 fun h => he (h2.1 h)], h3⟩, by simp [he]⟩
        clear hx hx'
        cases q
        · have HB : Hid (cs ≠ ds) := fun e => by have := HS.out.2.2 (by subst e; rfl); cases this
          go_wp2_with fail
          go_region_with (go_at_call 102; refine (HS.out.1 _ (by repeat (first | with_reducible exact Below.refl _ _ | with_reducible assumption | with_reducible refine ch_alloc ?_ _ | with_reducible refine Below.drew ?_ | with_reducible refine below_draws _ ?_ | (with_reducible refine Below.setCell ?_ ?_ _; rotate_left; focus (first | with_reducible exact Nat.le_refl _ | (simp; done) | (simp; omega) | (simp at *; omega))) | with_reducible refine ch_trans ?_ (by with_reducible assumption)))).mono ?_; rintro e w1 ⟨rfl, b1⟩)
          all_goals
            go_wp2
            go_ret
            exact ⟨_, rfl, ⟨fun h => by simp at h, fun h => absurd h HB.out⟩, (by repeat (first | with_reducible exact Below.refl _ _ | with_reducible assumption | with_reducible refine ch_alloc ?_ _ | with_reducible refine Below.drew ?_ | with_reducible refine below_draws _ ?_ | (with_reducible refine Below.setCell ?_ ?_ _; rotate_left; focus (first | with_reducible exact Nat.le_refl _ | (simp; done) | (simp; omega) | (simp at *; omega))) | with_reducible refine ch_trans ?_ (by with_reducible assumption)))⟩
        · have HN' : Hid (∀ i (h : i < cs.length) (g : i < ds.length), i < k + 1 → cs[i] = ds[i]) := fun i h g hi => by
            by_cases e : i = k
            · subst e; exact HS.out.2.1 rfl
            · exact HN.out i h g (by omega)
          go_wp2_with fail
          go_region_with (go_at_call 102; refine (HS.out.1 _ (by repeat (first | with_reducible exact Below.refl _ _ | with_reducible assumption | with_reducible refine ch_alloc ?_ _ | with_reducible refine Below.drew ?_ | with_reducible refine below_draws _ ?_ | (with_reducible refine Below.setCell ?_ ?_ _; rotate_left; focus (first | with_reducible exact Nat.le_refl _ | (simp; done) | (simp; omega) | (simp at *; omega))) | with_reducible refine ch_trans ?_ (by with_reducible assumption)))).mono ?_; rintro e w1 ⟨rfl, b1⟩)
          all_goals
            go_wp2
            go_round
            case rel => exact ⟨k + 1, by omega, by go_num, (by repeat (first | with_reducible exact Below.refl _ _ | with_reducible assumption | with_reducible refine ch_alloc ?_ _ | with_reducible refine Below.drew ?_ | with_reducible refine below_draws _ ?_ | (with_reducible refine Below.setCell ?_ ?_ _; rotate_left; focus (first | with_reducible exact Nat.le_refl _ | (simp; done) | (simp; omega) | (simp at *; omega))) | with_reducible refine ch_trans ?_ (by with_reducible assumption))), HN'⟩
            case measure => simp [intOf]; omega
      · have hlti : (cs.length : Int) ≤ k := by omega
        have HY : Hid (cs = ds) := List.ext_getElem HNL.out fun i h g => HN.out i h g (by omega)
        go_wp2
        go_ret
        exact ⟨_, rfl, ⟨fun _ => HY.out, fun _ => rfl⟩, (by repeat (first | with_reducible exact Below.refl _ _ | with_reducible assumption | with_reducible refine ch_alloc ?_ _ | with_reducible refine Below.drew ?_ | with_reducible refine below_draws _ ?_ | (with_reducible refine Below.setCell ?_ ?_ _; rotate_left; focus (first | with_reducible exact Nat.le_refl _ | (simp; done) | (simp; omega) | (simp at *; omega))) | with_reducible refine ch_trans ?_ (by with_reducible assumption)))⟩
  · have HN : Hid (cs ≠ ds) := fun e => hn (by rw [e])
    have hni : ((cs.length : Int) != (ds.length : Int)) = true := by simp; omega
    clear hn
    go_enter Tryz.func57, Tryz.ntmps57
    go_wp2
    go_ret
    exact ⟨_, rfl, ⟨fun h => by simp at h, fun h => absurd h HN.out⟩, (by repeat (first | with_reducible exact Below.refl _ _ | with_reducible assumption | with_reducible refine ch_alloc ?_ _ | with_reducible refine Below.drew ?_ | with_reducible refine below_draws _ ?_ | (with_reducible refine Below.setCell ?_ ?_ _; rotate_left; focus (first | with_reducible exact Nat.le_refl _ | (simp; done) | (simp; omega) | (simp at *; omega))) | with_reducible refine ch_trans ?_ (by with_reducible assumption)))⟩

set_option maxRecDepth 100000 in
set_option maxHeartbeats 2000000 in
/-- slices.EqualFunc over rows, by sameRow -/
theorem equalRows (av bv : Value) (cs ds : List (List Vc)) (w : World) (ha : RowsV w av cs) (hb : RowsV w bv ds) : Calls Tryz.prog 153 #[av, bv, .func (.func 154) #[] #[]] w fun e w' => ∃ q : Bool, e = .returned (.bool q) ∧ (q = true ↔ cs = ds) ∧ Below w.heap.size w w' := by
  obtain ⟨a, cap, rfl, hl, hm, ha⟩ := ha.lit
  obtain ⟨a', cap', rfl, hl', hm', hb⟩ := hb.lit
  unfold maxLen at hm hm'
  have HC : Hid (RowsV w (.slice a cs.length cap) cs) := ha
  have HC' : Hid (RowsV w (.slice a' ds.length cap') ds) := hb
  clear ha hb
  by_cases hn : cs.length = ds.length
  · have hni : ((cs.length : Int) != (ds.length : Int)) = false := by simp; omega
    have hnj : ((cs.length : Int) == (ds.length : Int)) = true := by simp; omega
    have HNL : Hid (cs.length = ds.length) := hn
    clear hn
    go_enter Tryz.func153, Tryz.ntmps153
    go_wp2
    go_loopw [17] (fun i wr => ∃ k : Nat, k ≤ cs.length ∧ i = .int .i64 k ∧ Below w.heap.size w wr ∧ Hid (∀ i (h : i < cs.length) (g : i < ds.length), i < k → cs[i] = ds[i])) (fun i _ => cs.length - (intOf i).toNat)
    case atStart => exact ⟨0, Nat.zero_le _, rfl, (by repeat (first | with_reducible exact Below.refl _ _ | with_reducible assumption | with_reducible refine ch_alloc ?_ _ | with_reducible refine Below.drew ?_ | with_reducible refine below_draws _ ?_ | (with_reducible refine Below.setCell ?_ ?_ _; rotate_left; focus (first | with_reducible exact Nat.le_refl _ | (simp; done) | (simp; omega) | (simp at *; omega))) | with_reducible refine ch_trans ?_ (by with_reducible assumption))), fun i h g hi => by omega⟩
    case round =>
      obtain ⟨k, hk, rfl, hb, HN⟩ := hrel
      by_cases hlt : k < cs.length
      · have hlti : (k : Int) < cs.length := by omega
        have hlt' : k < ds.length := by have := HNL.out; omega
        have hlti' : (k : Int) < ds.length := by omega
        obtain ⟨b, off, c, p, rfl, c0, hx⟩ := (HC.out.on hb).rw k hlt
        obtain ⟨b', off', c', p', rfl, d0, hx'⟩ := (HC'.out.on (w' := wr.alloc (.cells #[.slice c cs[k].length p] 55)) (ch_alloc hb _)).rw k hlt'
        have HXX : Hid (ValsV wr (.slice c cs[k].length p) cs[k] ∧ ValsV (wr.alloc (.cells #[.slice c cs[k].length p] 55)) (.slice c' ds[k].length p') ds[k]) := ⟨hx, hx'⟩
        clear hx hx'
        go_wp2_with fail
        refine (sameRow_impl _ _ cs[k] ds[k] _ (HXX.out.1.on (by repeat (first | with_reducible exact Below.refl _ _ | with_reducible assumption | with_reducible refine ch_alloc ?_ _ | with_reducible refine Below.drew ?_ | with_reducible refine below_draws _ ?_ | (with_reducible refine Below.setCell ?_ ?_ _; rotate_left; focus (first | with_reducible exact Nat.le_refl _ | (simp; done) | (simp; omega) | (simp at *; omega))) | with_reducible refine ch_trans ?_ (by with_reducible assumption)))) (HXX.out.2.on (ch_alloc (Below.refl _ _) _))).mono ?_
        rintro e w1 ⟨q, rfl, hq, b1⟩
        cases q
        · have HB : Hid (cs ≠ ds) := fun e => by have := hq.2 (by subst e; rfl); cases this
          clear hq
          go_wp2
          go_ret
          exact ⟨_, rfl, ⟨fun h => by simp at h, fun h => absurd h HB.out⟩, (by repeat (first | with_reducible exact Below.refl _ _ | with_reducible assumption | with_reducible refine ch_alloc ?_ _ | with_reducible refine Below.drew ?_ | with_reducible refine below_draws _ ?_ | (with_reducible refine Below.setCell ?_ ?_ _; rotate_left; focus (first | with_reducible exact Nat.le_refl _ | (simp; done) | (simp; omega) | (simp at *; omega))) | with_reducible refine ch_trans ?_ (by with_reducible assumption)))⟩
        · have HN' : Hid (∀ i (h : i < cs.length) (g : i < ds.length), i < k + 1 → cs[i] = ds[i]) := fun i h g hi => by
            by_cases e : i = k
            · subst e; exact hq.1 rfl
            · exact HN.out i h g (by omega)
          clear hq
          go_wp2
          go_round
          case rel => exact ⟨k + 1, by omega, by go_num, (by repeat (first | with_reducible exact Below.refl _ _ | with_reducible assumption | with_reducible refine ch_alloc ?_ _ | with_reducible refine Below.drew ?_ | with_reducible refine below_draws _ ?_ | (with_reducible refine Below.setCell ?_ ?_ _; rotate_left; focus (first | with_reducible exact Nat.le_refl _ | (simp; done) | (simp; omega) | (simp at *; omega))) | with_reducible refine ch_trans ?_ (by with_reducible assumption))), HN'⟩
          case measure => simp [intOf]; omega
      · have hlti : (cs.length : Int) ≤ k := by omega
        have HY : Hid (cs = ds) := List.ext_getElem HNL.out fun i h g => HN.out i h g (by omega)
        go_wp2
        go_ret
        exact ⟨_, rfl, ⟨fun _ => HY.out, fun _ => rfl⟩, (by repeat (first | with_reducible exact Below.refl _ _ | with_reducible assumption | with_reducible refine ch_alloc ?_ _ | with_reducible refine Below.drew ?_ | with_reducible refine below_draws _ ?_ | (with_reducible refine Below.setCell ?_ ?_ _; rotate_left; focus (first | with_reducible exact Nat.le_refl _ | (simp; done) | (simp; omega) | (simp at *; omega))) | with_reducible refine ch_trans ?_ (by with_reducible assumption)))⟩
  · have HN : Hid (cs ≠ ds) := fun e => hn (by rw [e])
    have hni : ((cs.length : Int) != (ds.length : Int)) = true := by simp; omega
    clear hn
    go_enter Tryz.func153, Tryz.ntmps153
    go_wp2
    go_ret
    exact ⟨_, rfl, ⟨fun h => by simp at h, fun h => absurd h HN.out⟩, (by repeat (first | with_reducible exact Below.refl _ _ | with_reducible assumption | with_reducible refine ch_alloc ?_ _ | with_reducible refine Below.drew ?_ | with_reducible refine below_draws _ ?_ | (with_reducible refine Below.setCell ?_ ?_ _; rotate_left; focus (first | with_reducible exact Nat.le_refl _ | (simp; done) | (simp; omega) | (simp at *; omega))) | with_reducible refine ch_trans ?_ (by with_reducible assumption)))⟩

set_option maxRecDepth 100000 in
/-- impl.SameRows -/
theorem sameRows_impl (av bv : Value) (cs ds : List (List Vc)) (w : World) (ha : RowsV w av cs) (hb : RowsV w bv ds) : Calls Tryz.prog 114 #[av, bv] w fun e w' => ∃ q : Bool, e = .returned (.bool q) ∧ (q = true ↔ cs = ds) ∧ Below w.heap.size w w' := by
  obtain ⟨a, cap, rfl, hl, hm, ha⟩ := ha.lit
  obtain ⟨a', cap', rfl, hl', hm', hb⟩ := hb.lit
  go_enter Tryz.func114, Tryz.ntmps114
  go_wp2_with fail
  refine (equalRows _ _ cs ds _ ha hb).mono ?_
  rintro e w1 ⟨q, rfl, hq, b1⟩
  go_wp2
  go_ret
  exact ⟨_, rfl, hq, (by repeat (first | with_reducible exact Below.refl _ _ | with_reducible assumption | with_reducible refine ch_alloc ?_ _ | with_reducible refine Below.drew ?_ | with_reducible refine below_draws _ ?_ | (with_reducible refine Below.setCell ?_ ?_ _; rotate_left; focus (first | with_reducible exact Nat.le_refl _ | (simp; done) | (simp; omega) | (simp at *; omega))) | with_reducible refine ch_trans ?_ (by with_reducible assumption)))⟩
end Go.Proofs.YtihilcffmdjhhalGreat

namespace Go.Proofs.YtihilcffmdjhhalGreat
open Go.ChangeShapes Go.WideShapes Go.ChangeAt Go.RowKit

/-- Tables that are right and equal. -/
def sameTs (cs ds : List Tc) : Prop := cs.length = ds.length ∧ ∀ i (h : i < cs.length) (g : i < ds.length), sameT cs[i] ds[i]
/-- Stores that are right and equal. -/
def sameDbs (ts : List Tc) (ds : List (List (List Vc))) (ts' : List Tc) (ds' : List (List (List Vc))) : Prop := dbRight ts ds ∧ dbRight ts' ds' ∧ sameTs ts ts' ∧ ds = ds'

set_option maxRecDepth 100000 in
/-- impl.sameData -/
theorem sameData_impl (av bv : Value) (cs ds : List (List Vc)) (w : World) (ha : RowsV w av cs) (hb : RowsV w bv ds) : Calls Tryz.prog 67 #[.agg #[av], .agg #[bv]] w fun e w' => ∃ q : Bool, e = .returned (.bool q) ∧ (q = true ↔ cs = ds) ∧ Below w.heap.size w w' := by
  obtain ⟨a, cap, rfl, hl, hm, ha⟩ := ha.lit
  obtain ⟨a', cap', rfl, hl', hm', hb⟩ := hb.lit
  have HC : Hid (RowsV w (.slice a cs.length cap) cs) := ha
  have HC' : Hid (RowsV w (.slice a' ds.length cap') ds) := hb
  clear ha hb
  go_enter Tryz.func67, Tryz.ntmps67
  go_wp2_with fail
  refine (sameRows_impl _ _ cs ds _ (HC.out.on (by repeat (first | with_reducible exact Below.refl _ _ | with_reducible assumption | with_reducible refine ch_alloc ?_ _ | with_reducible refine Below.drew ?_ | with_reducible refine below_draws _ ?_ | (with_reducible refine Below.setCell ?_ ?_ _; rotate_left; focus (first | with_reducible exact Nat.le_refl _ | (simp; done) | (simp; omega) | (simp at *; omega))) | with_reducible refine ch_trans ?_ (by with_reducible assumption)))) (HC'.out.on (by repeat (first | with_reducible exact Below.refl _ _ | with_reducible assumption | with_reducible refine ch_alloc ?_ _ | with_reducible refine Below.drew ?_ | with_reducible refine below_draws _ ?_ | (with_reducible refine Below.setCell ?_ ?_ _; rotate_left; focus (first | with_reducible exact Nat.le_refl _ | (simp; done) | (simp; omega) | (simp at *; omega))) | with_reducible refine ch_trans ?_ (by with_reducible assumption))))).mono ?_
  rintro e w1 ⟨q, rfl, hq, b1⟩
  have HQ : Hid (q = true ↔ cs = ds) := hq
  clear hq
  go_wp2
  go_ret
  exact ⟨_, rfl, HQ.out, (by repeat (first | with_reducible exact Below.refl _ _ | with_reducible assumption | with_reducible refine ch_alloc ?_ _ | with_reducible refine Below.drew ?_ | with_reducible refine below_draws _ ?_ | (with_reducible refine Below.setCell ?_ ?_ _; rotate_left; focus (first | with_reducible exact Nat.le_refl _ | (simp; done) | (simp; omega) | (simp at *; omega))) | with_reducible refine ch_trans ?_ (by with_reducible assumption)))⟩

end Go.Proofs.YtihilcffmdjhhalGreat
