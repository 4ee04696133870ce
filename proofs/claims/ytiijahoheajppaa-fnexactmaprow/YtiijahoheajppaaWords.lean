/- The contracts of WordOk, given and landed. -/
import Derived.Test.YtiijahoheajppaaRows
import Derived.WalkKit
import Derived.ProofKit
import Derived.OpenShut
import Derived.Below
import Derived.WalkLawsBesides
namespace Go.Proofs.Ytiijahoheajppaa
open Go.ChangeShapes Go.WideShapes Go.ChangeAt Go.RowKit

def lowB (c : UInt8) : Bool := decide (97 ≤ (c.toNat : Int)) && decide ((c.toNat : Int) ≤ 122)
/-- Whether a text is a word. -/
def wordB (s : ByteArray) : Bool := s.data.toList.all lowB && (decide (1 ≤ s.size) && decide (s.size ≤ 8))
theorem take_snoc (s : ByteArray) (k : Nat) (h : k < s.size) : s.data.toList.take (k + 1) = s.data.toList.take k ++ [s[k]] := by
  rw [List.take_succ_eq_append_getElem (by simpa using h)]; rfl
theorem all_snoc (s : ByteArray) (k : Nat) (h : k < s.size) (ha : (s.data.toList.take k).all lowB = true) (hl : lowB s[k] = true) : (s.data.toList.take (k + 1)).all lowB = true := by
  rw [take_snoc s k h, List.all_append, ha]; simp [hl]
theorem all_not (s : ByteArray) (k : Nat) (h : k < s.size) (hl : lowB s[k] = false) : wordB s = false := by
  have hm : s[k] ∈ s.data.toList := by
    have : s[k] = s.data.toList[k]'(by simpa using h) := rfl
    rw [this]; exact List.getElem_mem _
  have : s.data.toList.all lowB = false := by
    rw [List.all_eq_false]; exact ⟨s[k], hm, by simp [hl]⟩
  simp [wordB, this]
theorem all_end (s : ByteArray) (k : Nat) (h : s.size ≤ k) (ha : (s.data.toList.take k).all lowB = true) : s.data.toList.all lowB = true := by
  rwa [List.take_of_length_le (by simpa using h)] at ha
theorem word_end (s : ByteArray) (h1 : 1 ≤ s.size) (ha : s.data.toList.all lowB = true) : decide ((s.size : Int) ≤ 8) = wordB s := by
  rw [wordB, ha, Bool.true_and, decide_eq_true h1, Bool.true_and, decide_eq_decide]; omega
theorem ret_bool {a b : Bool} (h : a = b) : Ending.returned (.bool a) = .returned (.bool b) := by rw [h]

set_option maxHeartbeats 400000 in
theorem word_spec (s : ByteArray) (w : World) (hs : s.size ≤ maxLen) :
    Calls Try.prog 56 #[.string s] w fun e w' => e = .returned (.bool (wordB s)) ∧ w' = w := by
  unfold maxLen at hs
  go_enter Try.func56, Try.ntmps56
  go_wp2
  go_loop [3] (fun i => ∃ k : Nat, k ≤ s.size ∧ i = .int .i64 k ∧ Hid ((s.data.toList.take k).all lowB = true)) (fun i => s.size - (intOf i).toNat)
  case atStart => exact ⟨0, Nat.zero_le _, rfl, by show _ = true; simp⟩
  case round =>
    obtain ⟨k, hk, rfl, HA⟩ := hrel
    by_cases hlt : k < s.size
    · by_cases ha : (s[k].toNat : Int) < 97
      · have HN : Hid (wordB s = false) := all_not s k hlt (by simp [lowB]; omega)
        go_wp2
        go_ret
        exact ⟨ret_bool HN.out.symm, rfl⟩
      · by_cases hb : (122 : Int) < s[k].toNat
        · have HN : Hid (wordB s = false) := all_not s k hlt (by simp [lowB]; omega)
          go_wp2
          go_ret
          exact ⟨ret_bool HN.out.symm, rfl⟩
        · have HN : Hid ((s.data.toList.take (k + 1)).all lowB = true) := all_snoc s k hlt HA.out (by simp [lowB]; omega)
          go_wp2
          go_round
          case rel => exact ⟨k + 1, by omega, by go_num, HN⟩
          case measure => simp [intOf]; omega
    · have HE : Hid (s.data.toList.all lowB = true) := all_end s k (by omega) HA.out
      by_cases h1 : (1 : Int) ≤ s.size
      · go_wp2
        go_ret
        exact ⟨ret_bool (word_end s (by omega) HE.out), rfl⟩
      · go_wp2
        go_ret
        exact ⟨ret_bool (by simp [wordB]; omega), rfl⟩

set_option maxHeartbeats 400000 in
theorem word_impl (s : ByteArray) (w : World) (hs : s.size ≤ maxLen) :
    Calls Try.prog 59 #[.string s] w fun e w' => e = .returned (.bool (wordB s)) ∧ w' = w := by
  unfold maxLen at hs
  by_cases h1 : (s.size : Int) < 1
  · go_enter Try.func59, Try.ntmps59
    go_wp2
    go_ret
    exact ⟨ret_bool (by simp [wordB]; omega), rfl⟩
  by_cases h8 : (8 : Int) < s.size
  · go_enter Try.func59, Try.ntmps59
    go_wp2
    go_ret
    exact ⟨ret_bool (by simp [wordB]; omega), rfl⟩
  have e1 : decide ((s.size : Int) < 1) = false := by simp; omega
  have e8 : decide ((8 : Int) < s.size) = false := by simp; omega
  go_enter Try.func59, Try.ntmps59
  go_wp2
  go_loop [3] (fun i => ∃ k : Nat, k ≤ s.size ∧ i = .int .i64 k ∧ Hid ((s.data.toList.take k).all lowB = true)) (fun i => s.size - (intOf i).toNat)
  case atStart => exact ⟨0, Nat.zero_le _, rfl, by show _ = true; simp⟩
  case round =>
    obtain ⟨k, hk, rfl, HA⟩ := hrel
    by_cases hlt : k < s.size
    · by_cases ha : (s[k].toNat : Int) < 97
      · have HN : Hid (wordB s = false) := all_not s k hlt (by simp [lowB]; omega)
        go_wp2
        go_ret
        exact ⟨ret_bool HN.out.symm, rfl⟩
      · by_cases hb : (122 : Int) < s[k].toNat
        · have HN : Hid (wordB s = false) := all_not s k hlt (by simp [lowB]; omega)
          go_wp2
          go_ret
          exact ⟨ret_bool HN.out.symm, rfl⟩
        · have HN : Hid ((s.data.toList.take (k + 1)).all lowB = true) := all_snoc s k hlt HA.out (by simp [lowB]; omega)
          go_wp2
          go_round
          case rel => exact ⟨k + 1, by omega, by go_num, HN⟩
          case measure => simp [intOf]; omega
    · have HE : Hid (s.data.toList.all lowB = true) := all_end s k (by omega) HA.out
      go_wp2
      go_ret
      exact ⟨ret_bool (by simp [wordB, HE.out]; omega), rfl⟩
end Go.Proofs.Ytiijahoheajppaa
