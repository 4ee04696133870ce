/- Tables in memory: the laws' size, copy and look. -/
import Derived.Test.YtiijahoheajppaaGreatTb
import Derived.Test.YtiijahoheajppaaGreatEqVal
import Derived.Deep.RegionWith
namespace Go.Proofs.YtiijahoheajppaaGreat
open Go.ChangeShapes Go.WideShapes Go.ChangeAt Go.RowKit

/-- What a table holds. -/
structure Tc where
  name : ByteArray
  cols : List Cl
  keys : List ByteArray
def Cl.fit (c : Cl) : Prop := c.name.size ≤ maxLen ∧ c.ds.size ≤ maxLen
def Tc.fit (t : Tc) : Prop := t.name.size ≤ maxLen ∧ (∀ c ∈ t.cols, c.name.size ≤ maxLen ∧ c.ds.size ≤ maxLen) ∧ ∀ s ∈ t.keys, s.size ≤ maxLen
/-- A table's cells. -/
def TabV (w : World) (x : Array Value) (t : Tc) : Prop := ∃ cv kv, x = #[.string t.name, cv, kv] ∧ ColsV w cv t.cols ∧ StrsV w kv t.keys
theorem TabV.on {w w' : World} {x : Array Value} {t : Tc} (h : TabV w x t) (b : Below w.heap.size w w') : TabV w' x t := by
  obtain ⟨cv, kv, e, h1, h2⟩ := h; exact ⟨cv, kv, e, h1.on b, h2.on b⟩
theorem TabV.lit {w : World} {x : Array Value} {t : Tc} (h : TabV w x t) : ∃ a p b q, x = #[.string t.name, .slice a t.cols.length p, .slice b t.keys.length q] ∧ TabV w #[.string t.name, .slice a t.cols.length p, .slice b t.keys.length q] t ∧ ColsV w (.slice a t.cols.length p) t.cols ∧ StrsV w (.slice b t.keys.length q) t.keys := by
  obtain ⟨cv, kv, rfl, hc, hk⟩ := h
  obtain ⟨a, p, rfl, hc'⟩ := id hc
  obtain ⟨b, q, rfl, hk'⟩ := id hk
  exact ⟨a, p, b, q, rfl, ⟨_, _, rfl, hc, hk⟩, hc, hk⟩
/-- A table's rows lie from block B on. -/
def TabFrom (x : Array Value) (B : Nat) : Prop := ∀ v ∈ x.toList, From v B
theorem tabFrom_mk (s : ByteArray) {cv kv : Value} {B : Nat} (h1 : From cv B) (h2 : From kv B) : TabFrom #[.string s, cv, kv] B := by
  intro v hv
  simp at hv
  rcases hv with rfl | rfl | rfl
  · intro a n c e; cases e
  · exact h1
  · exact h2
/-- No list is longer than the laws look. -/
def Tc.few (t : Tc) : Prop := t.cols.length ≤ 1048576 ∧ t.keys.length ≤ 1048576

set_option maxRecDepth 100000 in
/-- laws.eqCol -/
theorem eqCol_same (c : Cl) (w : World) : Calls Tryz.prog 123 #[c.v, c.v] w fun e w' => e = .returned (.bool true) ∧ Below w.heap.size w w' := by
  go_enter Tryz.func123, Tryz.ntmps123
  go_wp2_with (go_at_call 89; refine (eqVal_same _ _ _ _).mono ?_; rintro e w' ⟨rfl, hw⟩; subst w')
  go_ret
  exact ⟨rfl, (by repeat (first | with_reducible exact Below.refl _ _ | with_reducible assumption | with_reducible refine ch_alloc ?_ _ | with_reducible refine Below.drew ?_ | with_reducible refine below_draws _ ?_ | (with_reducible refine Below.setCell ?_ ?_ _; rotate_left; focus (first | with_reducible exact Nat.le_refl _ | (simp; done) | (simp; omega) | (simp at *; omega))) | with_reducible refine ch_trans ?_ (by with_reducible assumption)))⟩

set_option maxRecDepth 100000 in
set_option maxHeartbeats 1000000 in
/-- laws.eqColS -/
theorem eqColS_same (av bv : Value) (cs : List Cl) (w : World) (ha : ColsV w av cs) (hb : ColsV w bv cs) : Calls Tryz.prog 90 #[av, bv] w fun e w' => e = .returned (.bool true) ∧ Below w.heap.size w w' := by
  obtain ⟨a, cap, rfl, hl, hm, hc⟩ := ha
  obtain ⟨a', cap', rfl, hl', hm', hc'⟩ := hb
  unfold maxLen at hm
  have HC : Hid (RowAt w a 7 (cs.map Cl.cells)) := hc
  have HC' : Hid (RowAt w a' 7 (cs.map Cl.cells)) := hc'
  clear hc hc' hm' hl'
  go_enter Tryz.func90, Tryz.ntmps90
  go_wp2
  go_loopw [5] (fun i wr => ∃ k : Nat, k ≤ cs.length ∧ i = .int .i64 k ∧ Below w.heap.size w wr) (fun i _ => cs.length - (intOf i).toNat)
  case atStart => exact ⟨0, Nat.zero_le _, rfl, (by repeat (first | with_reducible exact Below.refl _ _ | with_reducible assumption | with_reducible refine ch_alloc ?_ _ | with_reducible refine Below.drew ?_ | with_reducible refine below_draws _ ?_ | (with_reducible refine Below.setCell ?_ ?_ _; rotate_left; focus (first | with_reducible exact Nat.le_refl _ | (simp; done) | (simp; omega) | (simp at *; omega))) | with_reducible refine ch_trans ?_ (by with_reducible assumption)))⟩
  case round =>
    obtain ⟨k, hk, rfl, hb⟩ := hrel
    by_cases hlt : k < cs.length
    · have hlti : (k : Int) < cs.length := by omega
      obtain ⟨b, off, rfl, c0, c1, c2, c3, c4, c5, c6⟩ := (HC.out.on hb).cols k hlt
      obtain ⟨b', off', rfl, d0, d1, d2, d3, d4, d5, d6⟩ := (HC'.out.on hb).cols k hlt
      have HS : Hid (∀ w : World, Calls Tryz.prog 123 #[cs[k].v, cs[k].v] w fun e w' => e = .returned (.bool true) ∧ Below w.heap.size w w') := fun w => eqCol_same cs[k] w
      go_wp2_with fail
      go_region_with (go_at_call 123; refine (HS.out _).mono ?_; rintro e w1 ⟨rfl, b1⟩)
      all_goals
        go_wp2
        go_round
        case rel => exact ⟨k + 1, by omega, by go_num, (by repeat (first | with_reducible exact Below.refl _ _ | with_reducible assumption | with_reducible refine ch_alloc ?_ _ | with_reducible refine Below.drew ?_ | with_reducible refine below_draws _ ?_ | (with_reducible refine Below.setCell ?_ ?_ _; rotate_left; focus (first | with_reducible exact Nat.le_refl _ | (simp; done) | (simp; omega) | (simp at *; omega))) | with_reducible refine ch_trans ?_ (by with_reducible assumption)))⟩
        case measure => simp [intOf]; omega
    · have hlti : (cs.length : Int) ≤ k := by omega
      go_wp2
      go_ret
      exact ⟨rfl, (by repeat (first | with_reducible exact Below.refl _ _ | with_reducible assumption | with_reducible refine ch_alloc ?_ _ | with_reducible refine Below.drew ?_ | with_reducible refine below_draws _ ?_ | (with_reducible refine Below.setCell ?_ ?_ _; rotate_left; focus (first | with_reducible exact Nat.le_refl _ | (simp; done) | (simp; omega) | (simp at *; omega))) | with_reducible refine ch_trans ?_ (by with_reducible assumption)))⟩

set_option maxRecDepth 100000 in
set_option maxHeartbeats 1000000 in
/-- laws.eqStringS -/
theorem eqStringS_same (av bv : Value) (ks : List ByteArray) (w : World) (ha : StrsV w av ks) (hb : StrsV w bv ks) : Calls Tryz.prog 91 #[av, bv] w fun e w' => e = .returned (.bool true) ∧ Below w.heap.size w w' := by
  obtain ⟨a, cap, rfl, hl, hm, hc⟩ := ha
  obtain ⟨a', cap', rfl, hl', hm', hc'⟩ := hb
  unfold maxLen at hm
  have HC : Hid (RowAt w a 1 (ks.map strX)) := hc
  have HC' : Hid (RowAt w a' 1 (ks.map strX)) := hc'
  clear hc hc' hm' hl'
  go_enter Tryz.func91, Tryz.ntmps91
  go_wp2
  go_loopw [5] (fun i wr => ∃ k : Nat, k ≤ ks.length ∧ i = .int .i64 k ∧ Below w.heap.size w wr) (fun i _ => ks.length - (intOf i).toNat)
  case atStart => exact ⟨0, Nat.zero_le _, rfl, (by repeat (first | with_reducible exact Below.refl _ _ | with_reducible assumption | with_reducible refine ch_alloc ?_ _ | with_reducible refine Below.drew ?_ | with_reducible refine below_draws _ ?_ | (with_reducible refine Below.setCell ?_ ?_ _; rotate_left; focus (first | with_reducible exact Nat.le_refl _ | (simp; done) | (simp; omega) | (simp at *; omega))) | with_reducible refine ch_trans ?_ (by with_reducible assumption)))⟩
  case round =>
    obtain ⟨k, hk, rfl, hb⟩ := hrel
    by_cases hlt : k < ks.length
    · have hlti : (k : Int) < ks.length := by omega
      obtain ⟨b, off, rfl, c0⟩ := (HC.out.on hb).strs k hlt
      obtain ⟨b', off', rfl, d0⟩ := (HC'.out.on hb).strs k hlt
      go_wp2
      go_region
      all_goals
        go_wp2
        go_round
        case rel => exact ⟨k + 1, by omega, by go_num, (by repeat (first | with_reducible exact Below.refl _ _ | with_reducible assumption | with_reducible refine ch_alloc ?_ _ | with_reducible refine Below.drew ?_ | with_reducible refine below_draws _ ?_ | (with_reducible refine Below.setCell ?_ ?_ _; rotate_left; focus (first | with_reducible exact Nat.le_refl _ | (simp; done) | (simp; omega) | (simp at *; omega))) | with_reducible refine ch_trans ?_ (by with_reducible assumption)))⟩
        case measure => simp [intOf]; omega
    · have hlti : (ks.length : Int) ≤ k := by omega
      go_wp2
      go_ret
      exact ⟨rfl, (by repeat (first | with_reducible exact Below.refl _ _ | with_reducible assumption | with_reducible refine ch_alloc ?_ _ | with_reducible refine Below.drew ?_ | with_reducible refine below_draws _ ?_ | (with_reducible refine Below.setCell ?_ ?_ _; rotate_left; focus (first | with_reducible exact Nat.le_refl _ | (simp; done) | (simp; omega) | (simp at *; omega))) | with_reducible refine ch_trans ?_ (by with_reducible assumption)))⟩

end Go.Proofs.YtiijahoheajppaaGreat
