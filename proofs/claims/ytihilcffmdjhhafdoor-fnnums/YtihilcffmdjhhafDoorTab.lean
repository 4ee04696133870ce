/- Tables in memory: the laws' size, copy and look. -/
import Derived.Test.YtihilcffmdjhhafDoorTb
import Derived.Test.YtihilcffmdjhhafDoorEqVal
import Derived.Deep.RegionWith
namespace Go.Proofs.YtihilcffmdjhhafDoor
open Go.ChangeShapes Go.WideShapes Go.ChangeAt Go.RowKit

/-- What a table holds. -/
structure Tc where
  name : ByteArray
  cols : List Cl
  keys : List ByteArray
def Cl.fit (c : Cl) : Prop := c.name.size ≤ maxLen ∧ c.ds.size ≤ maxLen
def Tc.fit (t : Tc) : Prop := t.name.size ≤ maxLen ∧ (∀ c ∈ t.cols, c.name.size ≤ maxLen ∧ c.ds.size ≤ maxLen) ∧ ∀ s ∈ t.keys, s.size ≤ maxLen
/-- A table's cells. -/
def TabV (w : World) (x : Array Value) (t : Tc) : Prop := ∃ cv kv, x = #[.string t.name, cv, kv] ∧ ColsV w cv t.cols ∧ StrsV w kv t.keys
theorem TabV.on {w w' : World} {x : Array Value} {t : Tc} (h : TabV w x t) (b : Below w.heap.size w w') : TabV w' x t := by
  obtain ⟨cv, kv, e, h1, h2⟩ := h; exact ⟨cv, kv, e, h1.on b, h2.on b⟩
theorem TabV.lit {w : World} {x : Array Value} {t : Tc} (h : TabV w x t) : ∃ a p b q, x = #[.string t.name, .slice a t.cols.length p, .slice b t.keys.length q] ∧ TabV w #[.string t.name, .slice a t.cols.length p, .slice b t.keys.length q] t ∧ ColsV w (.slice a t.cols.length p) t.cols ∧ StrsV w (.slice b t.keys.length q) t.keys := by
  obtain ⟨cv, kv, rfl, hc, hk⟩ := h
  obtain ⟨a, p, rfl, hc'⟩ := id hc
  obtain ⟨b, q, rfl, hk'⟩ := id hk
  exact ⟨a, p, b, q, rfl, ⟨_, _, rfl, hc, hk⟩, hc, hk⟩
/-- A table's rows lie from block B on. -/
def TabFrom (x : Array Value) (B : Nat) : Prop := ∀ v ∈ x.toList, From v B
theorem tabFrom_mk (s : ByteArray) {cv kv : Value} {B : Nat} (h1 : From cv B) (h2 : From kv B) : TabFrom #[.string s, cv, kv] B := by
  intro v hv
  simp at hv
  rcases hv with rfl | rfl | rfl
  · intro a n c e; cases e
  · exact h1
  · exact h2
/-- No list is longer than the laws look. -/
def Tc.few (t : Tc) : Prop := t.cols.length ≤ 1048576 ∧ t.keys.length ≤ 1048576

end Go.Proofs.YtihilcffmdjhhafDoor
