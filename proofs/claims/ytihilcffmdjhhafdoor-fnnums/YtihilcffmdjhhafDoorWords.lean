/- The contracts of WordOk, given and landed. -/
import Derived.Test.YtihilcffmdjhhafDoorRows
import Derived.WalkKit
import Derived.ProofKit
import Derived.OpenShut
import Derived.Below
import Derived.WalkLawsBesides
namespace Go.Proofs.YtihilcffmdjhhafDoor
open Go.ChangeShapes Go.WideShapes Go.ChangeAt Go.RowKit

def lowB (c : UInt8) : Bool := decide (97 ≤ (c.toNat : Int)) && decide ((c.toNat : Int) ≤ 122)
/-- Whether a text is a word. -/
def wordB (s : ByteArray) : Bool := s.data.toList.all lowB && (decide (1 ≤ s.size) && decide (s.size ≤ 8))
theorem take_snoc (s : ByteArray) (k : Nat) (h : k < s.size) : s.data.toList.take (k + 1) = s.data.toList.take k ++ [s[k]] := by
  rw [List.take_succ_eq_append_getElem (by simpa using h)]; rfl
theorem all_snoc (s : ByteArray) (k : Nat) (h : k < s.size) (ha : (s.data.toList.take k).all lowB = true) (hl : lowB s[k] = true) : (s.data.toList.take (k + 1)).all lowB = true := by
  rw [take_snoc s k h, List.all_append, ha]; simp [hl]
theorem all_not (s : ByteArray) (k : Nat) (h : k < s.size) (hl : lowB s[k] = false) : wordB s = false := by
  have hm : s[k] ∈ s.data.toList := by
    have : s[k] = s.data.toList[k]'(by simpa using h) := rfl
    rw [this]; exact List.getElem_mem _
  have : s.data.toList.all lowB = false := by
    rw [List.all_eq_false]; exact ⟨s[k], hm, by simp [hl]⟩
  simp [wordB, this]
theorem all_end (s : ByteArray) (k : Nat) (h : s.size ≤ k) (ha : (s.data.toList.take k).all lowB = true) : s.data.toList.all lowB = true := by
  rwa [List.take_of_length_le (by simpa using h)] at ha
theorem word_end (s : ByteArray) (h1 : 1 ≤ s.size) (ha : s.data.toList.all lowB = true) : decide ((s.size : Int) ≤ 8) = wordB s := by
  rw [wordB, ha, Bool.true_and, decide_eq_true h1, Bool.true_and, decide_eq_decide]; omega
theorem ret_bool {a b : Bool} (h : a = b) : Ending.returned (.bool a) = .returned (.bool b) := by rw [h]

end Go.Proofs.YtihilcffmdjhhafDoor
