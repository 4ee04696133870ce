/- Whether a table is right: the given TableOk. -/
import Derived.Test.YtihilcffmdjhhafDoorTab
namespace Go.Proofs.YtihilcffmdjhhafDoor
open Go.ChangeShapes Go.WideShapes Go.ChangeAt Go.RowKit

/-- The place of the key ahead of a key; -1 ahead of the first. -/
def lastAt (cs : List Cl) (ks : List ByteArray) : Nat → Int
  | 0 => -1
  | j + 1 => match ks[j]? with | some k => colAt cs k | .none => -1
/-- A key is a column's name, behind the last, the column not null. -/
def keyGood (cs : List Cl) (ks : List ByteArray) (j : Nat) (h : j < ks.length) : Prop := lastAt cs ks j < colAt cs ks[j] ∧ ∃ g : (colAt cs ks[j]).toNat < cs.length, cs[(colAt cs ks[j]).toNat].nt = true
/-- A table is right. -/
def Tc.right (t : Tc) : Prop := wordB t.name = true ∧ 1 ≤ t.cols.length ∧ t.cols.length ≤ 8 ∧ 1 ≤ t.keys.length ∧ (∀ i (h : i < t.cols.length), t.cols[i].ok = true) ∧ (∀ i (h : i < t.cols.length), colAt t.cols t.cols[i].name = i) ∧ ∀ j (h : j < t.keys.length), keyGood t.cols t.keys j h
theorem colAt_lt (cs : List Cl) (s : ByteArray) : -1 ≤ colAt cs s ∧ colAt cs s < cs.length := by
  unfold colAt
  cases hf : cs.findIdx? (fun c => decide (c.name = s)) with
  | none => simp only []; omega
  | some i =>
    obtain ⟨hi, _⟩ := List.findIdx?_eq_some_iff_getElem.1 hf
    simp only []; omega
theorem lastAt_ge (cs : List Cl) (ks : List ByteArray) (j : Nat) : -1 ≤ lastAt cs ks j := by
  cases j with
  | zero => rw [lastAt]; omega
  | succ j =>
    rw [lastAt]
    cases ks[j]? with
    | none => simp
    | some k => exact (colAt_lt cs k).1
theorem lastAt_succ {cs : List Cl} {ks : List ByteArray} {j : Nat} (h : j < ks.length) : lastAt cs ks (j + 1) = colAt cs ks[j] := by
  rw [lastAt, List.getElem?_eq_getElem h]

end Go.Proofs.YtihilcffmdjhhafDoor
