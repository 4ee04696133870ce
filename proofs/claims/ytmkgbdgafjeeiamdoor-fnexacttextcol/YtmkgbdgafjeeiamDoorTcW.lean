/- The laws' look at two values. Tables in memory: the laws' size, copy and look. The law of TextCol, walked. -/
import Derived.Test.YtmkgbdgafjeeiamDoorToVal
import Derived.Test.YtmkgbdgafjeeiamDoorTb
import Derived.Deep.RegionWith
import Derived.Test.YtmkgbdgafjeeiamDoorSr
import Derived.Test.YtmkgbdgafjeeiamDoorLaidV
namespace Go.Proofs.YtmkgbdgafjeeiamDoor
open Go.ChangeShapes Go.WideShapes Go.ChangeAt Go.RowKit

theorem eqVal_same (ty n : Int) (s : ByteArray) (w : World) : Calls Tryd.prog 14 #[V ty n s, V ty n s] w fun e w' => e = .returned (.bool true) ∧ w' = (w.alloc (cellsV ty n s)).alloc (cellsV ty n s) := by
  go_enter Tryd.func14, Tryd.ntmps14
  go_wp2
  go_ret
  exact ⟨rfl, rfl⟩
end Go.Proofs.YtmkgbdgafjeeiamDoor

namespace Go.Proofs.YtmkgbdgafjeeiamDoor
open Go.ChangeShapes Go.WideShapes Go.ChangeAt Go.RowKit

/-- What a table holds. -/
structure Tc where
  name : ByteArray
  cols : List Cl
  keys : List ByteArray
def Cl.fit (c : Cl) : Prop := c.name.size ≤ maxLen ∧ c.ds.size ≤ maxLen
def Tc.fit (t : Tc) : Prop := t.name.size ≤ maxLen ∧ (∀ c ∈ t.cols, c.name.size ≤ maxLen ∧ c.ds.size ≤ maxLen) ∧ ∀ s ∈ t.keys, s.size ≤ maxLen
/-- A table's cells. -/
def TabV (w : World) (x : Array Value) (t : Tc) : Prop := ∃ cv kv, x = #[.string t.name, cv, kv] ∧ ColsV w cv t.cols ∧ StrsV w kv t.keys
theorem TabV.on {w w' : World} {x : Array Value} {t : Tc} (h : TabV w x t) (b : Below w.heap.size w w') : TabV w' x t := by
  obtain ⟨cv, kv, e, h1, h2⟩ := h; exact ⟨cv, kv, e, h1.on b, h2.on b⟩
theorem TabV.lit {w : World} {x : Array Value} {t : Tc} (h : TabV w x t) : ∃ a p b q, x = #[.string t.name, .slice a t.cols.length p, .slice b t.keys.length q] ∧ TabV w #[.string t.name, .slice a t.cols.length p, .slice b t.keys.length q] t ∧ ColsV w (.slice a t.cols.length p) t.cols ∧ StrsV w (.slice b t.keys.length q) t.keys := by
  obtain ⟨cv, kv, rfl, hc, hk⟩ := h
  obtain ⟨a, p, rfl, hc'⟩ := id hc
  obtain ⟨b, q, rfl, hk'⟩ := id hk
  exact ⟨a, p, b, q, rfl, ⟨_, _, rfl, hc, hk⟩, hc, hk⟩
/-- A table's rows lie from block B on. -/
def TabFrom (x : Array Value) (B : Nat) : Prop := ∀ v ∈ x.toList, From v B
theorem tabFrom_mk (s : ByteArray) {cv kv : Value} {B : Nat} (h1 : From cv B) (h2 : From kv B) : TabFrom #[.string s, cv, kv] B := by
  intro v hv
  simp at hv
  rcases hv with rfl | rfl | rfl
  · intro a n c e; cases e
  · exact h1
  · exact h2
/-- No list is longer than the laws look. -/
def Tc.few (t : Tc) : Prop := t.cols.length ≤ 1048576 ∧ t.keys.length ≤ 1048576

set_option maxRecDepth 100000 in
/-- laws.eqCol -/
theorem eqCol_same (c : Cl) (w : World) : Calls Tryd.prog 6 #[c.v, c.v] w fun e w' => e = .returned (.bool true) ∧ Below w.heap.size w w' := by
  go_enter Tryd.func6, Tryd.ntmps6
  go_wp2_with (go_at_call 14; refine (eqVal_same _ _ _ _).mono ?_; rintro e w' ⟨rfl, hw⟩; subst w')
  go_ret
  exact ⟨rfl, (by repeat (first | with_reducible exact Below.refl _ _ | with_reducible assumption | with_reducible refine ch_alloc ?_ _ | with_reducible refine Below.drew ?_ | with_reducible refine below_draws _ ?_ | (with_reducible refine Below.setCell ?_ ?_ _; rotate_left; focus (first | with_reducible exact Nat.le_refl _ | (simp; done) | (simp; omega) | (simp at *; omega))) | with_reducible refine ch_trans ?_ (by with_reducible assumption)))⟩

end Go.Proofs.YtmkgbdgafjeeiamDoor

namespace Go.Proofs.YtmkgbdgafjeeiamDoor
open Go.ChangeShapes Go.WideShapes Go.ChangeAt Go.RowKit

set_option maxRecDepth 100000 in
set_option maxHeartbeats 1000000 in
theorem textCol_walk (s : ByteArray) (w : World) (hE : Env w w.heap.size) :
    Calls Tryd.prog 3 #[.string s] w fun e w' => e = .returned (.bool true) ∧ Below w.heap.size w w' := by
  by_cases h : (1048576 : Int) < s.size
  · go_enter Tryd.func3, Tryd.ntmps3
    go_wp2
    go_ret
    exact ⟨rfl, Below.refl _ _⟩
  have hs : s.size ≤ 1048576 := by omega
  have HE : Hid (Env w w.heap.size) := hE
  clear hE
  go_enter Tryd.func3, Tryd.ntmps3
  go_wp2_with fail
  refine (textCol_spec s _ hs).mono ?_
  rintro e w1 ⟨b1, c, q, rfl, h1⟩
  have HI : Hid (isCol s c q) := h1
  clear h1
  have HL := Loc.new w1 c.cells 25
  have hv1 : Below w1.heap.size w1 (w1.alloc (.cells c.cells 25)) := ch_alloc (Below.refl _ _) _
  have hb1 := ch_trans b1 hv1
  have HE1 : Hid (Env (w1.alloc (.cells c.cells 25)) (w1.alloc (.cells c.cells 25)).heap.size) := HE.out.wide hb1
  clear b1
  go_wp2_with fail
  generalize w1.alloc (.cells c.cells 25) = u1 at HL hv1 hb1 HE1 ⊢
  refine (textCol_impl s _ hs HE1.out).mono ?_
  rintro e w2 ⟨b2, d, r, rfl, h2⟩
  obtain ⟨hcd, hqr⟩ := HI.out.unique h2
  subst hcd
  subst hqr
  have HL2 := HL.on b2
  have hb2 := ch_trans hb1 b2
  have HM := Loc.new w2 c.cells 25
  have hv2 : Below w2.heap.size w2 (w2.alloc (.cells c.cells 25)) := ch_alloc (Below.refl _ _) _
  have HL3 := HL2.on hv2
  have hb3 := ch_trans hb2 hv2
  obtain ⟨g0, g1, g2, g3, g4, g5, g6⟩ := HL3.seven
  have hqq : (q != q) = false := by cases q <;> rfl
  have hqe : (q == q) = true := by cases q <;> rfl
  clear b2 h2 HL hv1 hb1 HE1 HL2 hb2 hv2 HI
  go_wp2_with fail
  generalize w2.alloc (.cells c.cells 25) = u2 at HM HL3 hb3 g0 g1 g2 g3 g4 g5 g6 ⊢
  refine (eqCol_same c _).mono ?_
  rintro e w3 ⟨rfl, b3⟩
  have hb4 := ch_trans hb3 b3
  clear b3 g0 g1 g2 g3 g4 g5 g6
  go_wp2
  go_ret
  exact ⟨rfl, hb4⟩
end Go.Proofs.YtmkgbdgafjeeiamDoor
