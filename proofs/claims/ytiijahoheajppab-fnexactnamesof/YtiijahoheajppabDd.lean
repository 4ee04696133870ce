/- Changes in memory: the laws' size, copy and look. -/
import Derived.Test.YtiijahoheajppabTab
namespace Go.Proofs.Ytiijahoheajppab
open Go.ChangeShapes Go.WideShapes Go.ChangeAt Go.RowKit

/-- What a change holds. -/
structure Dc where
  kind : Int
  table : ByteArray
  cols : List Cl
  keys : List ByteArray
  name : ByteArray
  to : ByteArray
def Dc.fit (d : Dc) : Prop := d.table.size ≤ maxLen ∧ (∀ c ∈ d.cols, c.name.size ≤ maxLen ∧ c.ds.size ≤ maxLen) ∧ (∀ s ∈ d.keys, s.size ≤ maxLen) ∧ d.name.size ≤ maxLen ∧ d.to.size ≤ maxLen
def Dc.few (d : Dc) : Prop := d.cols.length ≤ 1048576 ∧ d.keys.length ≤ 1048576
/-- A change's cells. -/
def DdlV (w : World) (x : Array Value) (d : Dc) : Prop := ∃ cv kv, x = #[.int .i64 d.kind, .string d.table, cv, kv, .string d.name, .string d.to] ∧ ColsV w cv d.cols ∧ StrsV w kv d.keys
theorem DdlV.on {w w' : World} {x : Array Value} {d : Dc} (h : DdlV w x d) (b : Below w.heap.size w w') : DdlV w' x d := by
  obtain ⟨cv, kv, e, h1, h2⟩ := h; exact ⟨cv, kv, e, h1.on b, h2.on b⟩
theorem DdlV.lit {w : World} {x : Array Value} {t : Dc} (h : DdlV w x t) : ∃ a p b q, x = #[.int .i64 t.kind, .string t.table, .slice a t.cols.length p, .slice b t.keys.length q, .string t.name, .string t.to] ∧ DdlV w #[.int .i64 t.kind, .string t.table, .slice a t.cols.length p, .slice b t.keys.length q, .string t.name, .string t.to] t ∧ ColsV w (.slice a t.cols.length p) t.cols ∧ StrsV w (.slice b t.keys.length q) t.keys := by
  obtain ⟨cv, kv, rfl, hc, hk⟩ := h
  obtain ⟨a, p, rfl, hc'⟩ := id hc
  obtain ⟨b, q, rfl, hk'⟩ := id hk
  exact ⟨a, p, b, q, rfl, ⟨_, _, rfl, hc, hk⟩, hc, hk⟩

end Go.Proofs.Ytiijahoheajppab
