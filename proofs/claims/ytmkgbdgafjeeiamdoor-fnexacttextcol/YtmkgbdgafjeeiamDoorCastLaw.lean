/- The order of values, and the contract of the landed ValLess. What is cast and cast back: plainly. -/
import Derived.Test.YtmkgbdgafjeeiamDoorColOkI
import Derived.Test.YtmkgbdgafjeeiamDoorCastF
namespace Go.Proofs.YtmkgbdgafjeeiamDoor
open Go.ChangeShapes Go.WideShapes Go.ChangeAt Go.RowKit

/-- The order of values. -/
def lessB (t1 n1 : Int) (s1 : ByteArray) (t2 n2 : Int) (s2 : ByteArray) : Bool :=
  if okB t1 n1 s1 = true ∧ okB t2 n2 s2 = true then
    (if t1 = t2 then decide (n1 < n2) || (n1 == n2 && Op.bytesLess s1.toList s2.toList) else decide (t1 < t2))
  else false

end Go.Proofs.YtmkgbdgafjeeiamDoor

namespace Go.Proofs.YtmkgbdgafjeeiamDoor
open Go.ChangeShapes Go.WideShapes Go.ChangeAt Go.RowKit

theorem castF_ok {ty n : Int} {s : ByteArray} {tg : Int} (h : (castF ty n s tg).2.2.2 = true) : okB ty n s = true ∧ (tg = 1 ∨ tg = 2 ∨ tg = 3) := by
  refine ⟨?_, ?_⟩
  · cases hk : okB ty n s
    · rw [castF, if_pos hk] at h; cases h
    · rfl
  · rcases to_cases tg with ht | ht
    · exfalso
      have e : castF ty n s tg = (0, 0, noS, false) := by
        unfold castF
        split
        · rfl
        · rfl
      rw [e] at h; cases h
    · exact ht
theorem castF_no (ty n : Int) (s : ByteArray) (tg : Int) (h : (castF ty n s tg).2.2.2 = false) : castF ty n s tg = (0, 0, noS, false) := by
  unfold castF at h ⊢
  repeat' split
  all_goals first | rfl | (exfalso; simp_all; done)
theorem castF_null (n : Int) (s : ByteArray) (tg : Int) (h : (castF 0 n s tg).2.2.2 = true) : castF 0 n s tg = (0, 0, noS, true) ∧ n = 0 ∧ s = noS := by
  obtain ⟨hk, ht⟩ := castF_ok h
  have hto : ¬ (tg < 1 ∨ 3 < tg) := by omega
  refine ⟨by rw [castF, if_neg (by rw [hk]; simp), if_neg hto, if_pos rfl], ?_⟩
  rcases ok_cases 0 n s hk with ⟨_, h1, h2⟩ | ⟨h1, _⟩ | ⟨h1, _⟩ | ⟨h1, _⟩
  · exact ⟨h1, h2⟩
  · cases h1
  · cases h1
  · cases h1
theorem bS_size (b : Bool) : (bS b).size ≤ 30 := by cases b <;> decide
theorem ok_text (x : ByteArray) (h : x.size ≤ 30) : okB 3 0 x = true := by simp [okB, h]
theorem ok_bool (n : Int) (h : n = 0 ∨ n = 1) : okB 1 n noS = true := by rcases h with rfl | rfl <;> simp [okB, ByteArray.toList_eq]
theorem ok_int (n : Int) (h : numB n = true) : okB 2 n noS = true := by simp [okB, ByteArray.toList_eq, h]
theorem num_size (n : Int) : (⟨(numText n).toArray⟩ : ByteArray).size ≤ 30 := by
  have := numText_len n
  have e : (⟨(numText n).toArray⟩ : ByteArray).size = (numText n).length := by simp [ByteArray.size]
  omega
theorem tn_num (n : Int) (h : numB n = true) : tnB ⟨(numText n).toArray⟩ = true ∧ tnV ⟨(numText n).toArray⟩ = n := by
  have hne : numText n ≠ [] := by rw [numText, if_pos h]; exact itoa_ne n
  have := tn_some (s := ⟨(numText n).toArray⟩) (textNum_text n _ (by simpa using hne) (by simp))
  exact ⟨this.2, this.1⟩
theorem numB01 (n : Int) (h : n = 0 ∨ n = 1) : numB n = true := by rcases h with rfl | rfl <;> decide
theorem castF_back (ty n : Int) (s : ByteArray) (tg : Int) (h0 : ty ≠ 0) (h : (castF ty n s tg).2.2.2 = true) :
    (castF ty n s tg).1 = tg ∧ ((castF (castF ty n s tg).1 (castF ty n s tg).2.1 (castF ty n s tg).2.2.1 ty).2.2.2 = false ∨ ty = 3 ∨ castF (castF ty n s tg).1 (castF ty n s tg).2.1 (castF ty n s tg).2.2.1 ty = (ty, n, s, true)) := by
  obtain ⟨hk, ht⟩ := castF_ok h
  rcases ok_cases ty n s hk with ⟨rfl, _⟩ | ⟨rfl, hn, rfl⟩ | ⟨rfl, hn, rfl⟩ | ⟨rfl, rfl, hs⟩
  · exact absurd rfl h0
  · rcases ht with rfl | rfl | rfl
    · have e : castF 1 n noS 1 = (1, n, noS, true) := by simp [castF, hk]
      rw [e]; exact ⟨rfl, Or.inr (Or.inr e)⟩
    · have e : castF 1 n noS 2 = (2, n, noS, true) := by simp [castF, hk]
      rw [e]; exact ⟨rfl, Or.inr (Or.inr (by simp [castF, ok_int n (numB01 n hn), hn]))⟩
    · have e : castF 1 n noS 3 = (3, 0, bS (n == 1), true) := by simp [castF, hk]
      rw [e]
      refine ⟨rfl, Or.inr (Or.inr ?_)⟩
      rcases hn with rfl | rfl
      · show castF 3 0 (bS false) 1 = _
        rw [castF, if_neg (by rw [ok_text _ (bS_size _)]; simp), if_neg (by omega), if_neg (by omega), if_neg (by omega), if_neg (by omega), if_pos rfl, if_pos rfl, if_neg (by simp [isTrue, bS, ByteArray.toList_eq]), if_pos (by simp [isFalse, bS])]
      · show castF 3 0 (bS true) 1 = _
        rw [castF, if_neg (by rw [ok_text _ (bS_size _)]; simp), if_neg (by omega), if_neg (by omega), if_neg (by omega), if_neg (by omega), if_pos rfl, if_pos rfl, if_pos (by simp [isTrue, bS])]
  · rcases ht with rfl | rfl | rfl
    · by_cases h01 : n = 0 ∨ n = 1
      · have e : castF 2 n noS 1 = (1, n, noS, true) := by simp [castF, hk, h01]
        rw [e]; exact ⟨rfl, Or.inr (Or.inr (by simp [castF, ok_bool n h01]))⟩
      · have e : castF 2 n noS 1 = (0, 0, noS, false) := by simp [castF, hk, h01]
        rw [e] at h; cases h
    · have e : castF 2 n noS 2 = (2, n, noS, true) := by simp [castF, hk]
      rw [e]; exact ⟨rfl, Or.inr (Or.inr e)⟩
    · have e : castF 2 n noS 3 = (3, 0, ⟨(numText n).toArray⟩, true) := by simp [castF, hk]
      rw [e]
      exact ⟨rfl, Or.inr (Or.inr (by simp [castF, ok_text _ (num_size n), tn_num n hn]))⟩
  · refine ⟨?_, Or.inr (Or.inl rfl)⟩
    rcases ht with rfl | rfl | rfl
    · unfold castF at h ⊢
      simp only [hk] at h ⊢
      simp at h ⊢
      split at h
      · rename_i h1; simp [h1]
      · rename_i h1
        split at h
        · rename_i h2; simp [h1, h2]
        · cases h
    · unfold castF at h ⊢
      simp only [hk] at h ⊢
      simp at h ⊢
      split at h
      · rename_i h1; simp [h1]
      · cases h
    · have e : castF 3 0 s 3 = (3, 0, s, true) := by simp [castF, hk]
      rw [e]
end Go.Proofs.YtmkgbdgafjeeiamDoor
