/- Changes in memory: the laws' size, copy and look. Whether a change is right: the given DdlOk. Whether a change is right: the landed DdlOk. -/
import Derived.Test.YtiijahoheajppaaTab
import Derived.Test.YtiijahoheajppaaTbOkS
import Derived.Test.YtiijahoheajppaaTbOkI
namespace Go.Proofs.Ytiijahoheajppaa
open Go.ChangeShapes Go.WideShapes Go.ChangeAt Go.RowKit

/-- What a change holds. -/
structure Dc where
  kind : Int
  table : ByteArray
  cols : List Cl
  keys : List ByteArray
  name : ByteArray
  to : ByteArray
def Dc.fit (d : Dc) : Prop := d.table.size ≤ maxLen ∧ (∀ c ∈ d.cols, c.name.size ≤ maxLen ∧ c.ds.size ≤ maxLen) ∧ (∀ s ∈ d.keys, s.size ≤ maxLen) ∧ d.name.size ≤ maxLen ∧ d.to.size ≤ maxLen
def Dc.few (d : Dc) : Prop := d.cols.length ≤ 1048576 ∧ d.keys.length ≤ 1048576
/-- A change's cells. -/
def DdlV (w : World) (x : Array Value) (d : Dc) : Prop := ∃ cv kv, x = #[.int .i64 d.kind, .string d.table, cv, kv, .string d.name, .string d.to] ∧ ColsV w cv d.cols ∧ StrsV w kv d.keys
theorem DdlV.on {w w' : World} {x : Array Value} {d : Dc} (h : DdlV w x d) (b : Below w.heap.size w w') : DdlV w' x d := by
  obtain ⟨cv, kv, e, h1, h2⟩ := h; exact ⟨cv, kv, e, h1.on b, h2.on b⟩
theorem DdlV.lit {w : World} {x : Array Value} {t : Dc} (h : DdlV w x t) : ∃ a p b q, x = #[.int .i64 t.kind, .string t.table, .slice a t.cols.length p, .slice b t.keys.length q, .string t.name, .string t.to] ∧ DdlV w #[.int .i64 t.kind, .string t.table, .slice a t.cols.length p, .slice b t.keys.length q, .string t.name, .string t.to] t ∧ ColsV w (.slice a t.cols.length p) t.cols ∧ StrsV w (.slice b t.keys.length q) t.keys := by
  obtain ⟨cv, kv, rfl, hc, hk⟩ := h
  obtain ⟨a, p, rfl, hc'⟩ := id hc
  obtain ⟨b, q, rfl, hk'⟩ := id hk
  exact ⟨a, p, b, q, rfl, ⟨_, _, rfl, hc, hk⟩, hc, hk⟩

end Go.Proofs.Ytiijahoheajppaa

namespace Go.Proofs.Ytiijahoheajppaa
open Go.ChangeShapes Go.WideShapes Go.ChangeAt Go.RowKit

/-- A text is empty. -/
def noneB (s : ByteArray) : Bool := s.toList.isEmpty
/-- A change is right. -/
def Dc.right (d : Dc) : Prop := wordB d.table = true ∧
  ((d.kind = 1 ∧ noneB d.name = true ∧ noneB d.to = true ∧ Tc.right ⟨d.table, d.cols, d.keys⟩) ∨
  (d.kind = 2 ∧ d.cols.length = 0 ∧ d.keys.length = 0 ∧ noneB d.name = true ∧ noneB d.to = true) ∨
  (d.kind = 3 ∧ d.cols.length = 1 ∧ (∀ (h : 0 < d.cols.length), d.cols[0].ok = true ∧ (d.cols[0].has = true ∨ d.cols[0].nt = false)) ∧ d.keys.length = 0 ∧ noneB d.name = true ∧ noneB d.to = true) ∨
  (d.kind = 4 ∧ d.cols.length = 0 ∧ d.keys.length = 0 ∧ wordB d.name = true ∧ noneB d.to = true) ∨
  (d.kind = 5 ∧ d.cols.length = 0 ∧ d.keys.length = 0 ∧ wordB d.name = true ∧ wordB d.to = true))

end Go.Proofs.Ytiijahoheajppaa

namespace Go.Proofs.Ytiijahoheajppaa
open Go.ChangeShapes Go.WideShapes Go.ChangeAt Go.RowKit

set_option maxRecDepth 100000 in
set_option maxHeartbeats 1000000 in
/-- impl.mayComeLater -/
theorem later_any (c : Cl) (w : World) (hn : c.name.size ≤ maxLen) : Calls Try.prog 41 #[c.v] w fun e w' => e = .returned (.bool (c.ok && (c.has || !c.nt))) ∧ Below w.heap.size w w' := by
  have HS : Hid (∀ w : World, Calls Try.prog 60 #[c.v] w fun e w' => e = .returned (.bool c.ok) ∧ Below w.heap.size w w') := fun w => colOk_impl c w hn
  clear hn
  have HL := Loc.new w c.cells 60
  generalize c.ok = k at HS
  obtain ⟨cn, ct, cnt, chas, cdt, cdn, cds⟩ := c
  cases k <;> cases cnt <;> cases chas
  all_goals
    go_enter Try.func41, Try.ntmps41
    go_wp2_with (go_at_call 60; refine (HS.out _).mono ?_; rintro e w1 ⟨rfl, b1⟩; have HL1 := HL.on b1; obtain ⟨l0, l1, l2, l3, l4, l5, l6⟩ := HL1.seven)
    go_ret
    exact ⟨rfl, (by repeat (first | with_reducible exact Below.refl _ _ | with_reducible assumption | with_reducible refine ch_alloc ?_ _ | with_reducible refine Below.drew ?_ | with_reducible refine below_draws _ ?_ | (with_reducible refine Below.setCell ?_ ?_ _; rotate_left; focus (first | with_reducible exact Nat.le_refl _ | (simp; done) | (simp; omega) | (simp at *; omega))) | with_reducible refine ch_trans ?_ (by with_reducible assumption)))⟩

end Go.Proofs.Ytiijahoheajppaa
