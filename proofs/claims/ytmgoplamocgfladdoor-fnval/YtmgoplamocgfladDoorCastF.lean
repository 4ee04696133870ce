/- What Cast answers, plainly, and that the landed one does. -/
import Derived.Test.YtmgoplamocgfladDoorCastI
namespace Go.Proofs.YtmgoplamocgfladDoor
open Go.ChangeShapes Go.WideShapes Go.ChangeAt Go.RowKit

/-- What Cast answers: the value's three fields, and whether there is one. -/
def castF (ty n : Int) (s : ByteArray) (tg : Int) : Int × Int × ByteArray × Bool :=
  if okB ty n s = false then (0, 0, noS, false)
  else if tg < 1 ∨ 3 < tg then (0, 0, noS, false)
  else if ty = 0 then (0, 0, noS, true)
  else if ty = tg then (ty, n, s, true)
  else if tg = 3 then (if ty = 1 then (3, 0, bS (n == 1), true) else (3, 0, ⟨(numText n).toArray⟩, true))
  else if ty = 3 then
    (if tg = 1 then (if isTrue s = true then (1, 1, noS, true) else if isFalse s = true then (1, 0, noS, true) else (0, 0, noS, false))
     else if tnB s = true then (2, tnV s, noS, true) else (0, 0, noS, false))
  else if tg = 2 then (2, n, noS, true)
  else if n = 0 ∨ n = 1 then (1, n, noS, true) else (0, 0, noS, false)
abbrev cRF (p : Int × Int × ByteArray × Bool) : Value := cR p.1 p.2.1 p.2.2.1 p.2.2.2

theorem noS_of (s : ByteArray) (h : s.toList.isEmpty = true) : s = noS := by
  rw [ByteArray.toList_eq, List.isEmpty_iff] at h
  apply ByteArray.ext
  rw [← Array.toList_inj, h]
theorem ok_cases (ty n : Int) (s : ByteArray) (h : okB ty n s = true) :
    (ty = 0 ∧ n = 0 ∧ s = noS) ∨ (ty = 1 ∧ (n = 0 ∨ n = 1) ∧ s = noS) ∨ (ty = 2 ∧ numB n = true ∧ s = noS) ∨ (ty = 3 ∧ n = 0 ∧ s.size ≤ 30) := by
  unfold okB at h
  split at h
  · rename_i h0
    simp only [Bool.and_eq_true, beq_iff_eq] at h
    exact Or.inl ⟨h0, h.1, noS_of s h.2⟩
  · split at h
    · rename_i h0
      simp only [Bool.and_eq_true, Bool.or_eq_true, beq_iff_eq] at h
      exact Or.inr (Or.inl ⟨h0, h.1, noS_of s h.2⟩)
    · split at h
      · rename_i h0
        simp only [Bool.and_eq_true] at h
        exact Or.inr (Or.inr (Or.inl ⟨h0, h.1, noS_of s h.2⟩))
      · split at h
        · rename_i h0
          simp only [Bool.and_eq_true, beq_iff_eq, decide_eq_true_eq] at h
          exact Or.inr (Or.inr (Or.inr ⟨h0, h.1, h.2⟩))
        · cases h
theorem to_cases (tg : Int) : (tg < 1 ∨ 3 < tg) ∨ tg = 1 ∨ tg = 2 ∨ tg = 3 := by omega
theorem bN_of (n : Int) (h : n = 0 ∨ n = 1) : bN (n == 1) = n := by rcases h with rfl | rfl <;> rfl
theorem in0 (n : Int) (s : ByteArray) : inner 0 n s = iNull := rfl
theorem in1 (n : Int) (s : ByteArray) : inner 1 n s = iBool (n == 1) := rfl
theorem in2 (n : Int) (s : ByteArray) : inner 2 n s = iInt n := rfl
theorem in3 (n : Int) (s : ByteArray) : inner 3 n s = iText s := rfl

/-- impl.Cast -/
theorem cast_impl (ty n : Int) (s : ByteArray) (tg : Int) : Does 9 #[V ty n s, .int .i64 tg] (cRF (castF ty n s tg)) := by
  cases h : okB ty n s
  · have e : castF ty n s tg = (0, 0, noS, false) := by rw [castF, if_pos h]
    rw [e]; exact cast_impl_not ty n s tg h
  have hh : ¬ okB ty n s = false := by rw [h]; simp
  rcases to_cases tg with ht | ht
  · have e : castF ty n s tg = (0, 0, noS, false) := by rw [castF, if_neg hh, if_pos ht]
    rw [e]
    exact cast_impl_fails ty n s tg _ h (castValue_no _ tg (by simp; omega) (by simp; omega) (by simp; omega))
  have hto : ¬ (tg < 1 ∨ 3 < tg) := by omega
  rcases ok_cases ty n s h with ⟨rfl, rfl, rfl⟩ | ⟨rfl, hn, rfl⟩ | ⟨rfl, hn, rfl⟩ | ⟨rfl, rfl, hs⟩
  · have e : castF 0 0 noS tg = (0, 0, noS, true) := by rw [castF, if_neg hh, if_neg hto, if_pos rfl]
    rw [e]
    refine cast_impl_null 0 0 noS tg h ?_
    rw [in0]
    rcases ht with rfl | rfl | rfl
    · exact castValue_1 _ _ _ (fun w _ _ => castBool_null w)
    · exact castValue_2 _ _ _ (fun w _ _ => castInt_null w)
    · exact castValue_3 _ _ _ (fun w _ _ => castText_null w)
  · rcases ht with rfl | rfl | rfl
    · have e : castF 1 n noS 1 = (1, n, noS, true) := by simp [castF, h]
      rw [e]
      have := cast_impl_bool 1 n noS 1 (n == 1) h (by rw [in1]; exact castValue_1 _ _ _ (fun w _ _ => castBool_bool _ w))
      rwa [bN_of n hn] at this
    · have e : castF 1 n noS 2 = (2, n, noS, true) := by simp [castF, h]
      rw [e]
      have := cast_impl_int 1 n noS 2 (bN (n == 1)) h (by rw [in1]; exact castValue_2 _ _ _ (fun w _ _ => castInt_bool _ w))
      rwa [bN_of n hn] at this
    · have e : castF 1 n noS 3 = (3, 0, bS (n == 1), true) := by simp [castF, h]
      rw [e]
      exact cast_impl_text 1 n noS 3 (bS (n == 1)) h (by rw [in1]; exact castValue_3 _ _ _ (fun w _ _ => castText_bool _ w))
  · rcases ht with rfl | rfl | rfl
    · by_cases h01 : n = 0 ∨ n = 1
      · have e : castF 2 n noS 1 = (1, n, noS, true) := by simp [castF, h, h01]
        rw [e]
        have hb : (n == 0 || n == 1) = true := by simpa using h01
        have := cast_impl_bool 2 n noS 1 (n == 1) h (by rw [in2]; have := fun w => castBool_int n w; rw [hb] at this; exact castValue_1 _ _ _ (fun w _ _ => this w))
        rwa [bN_of n h01] at this
      · have e : castF 2 n noS 1 = (0, 0, noS, false) := by simp [castF, h, h01]
        rw [e]
        have hb : (n == 0 || n == 1) = false := by simpa using h01
        exact cast_impl_fails 2 n noS 1 (iBool (n == 1)) h (by rw [in2]; have := fun w => castBool_int n w; rw [hb] at this; exact castValue_1 _ _ _ (fun w _ _ => this w))
    · have e : castF 2 n noS 2 = (2, n, noS, true) := by simp [castF, h]
      rw [e]
      exact cast_impl_int 2 n noS 2 n h (by rw [in2]; exact castValue_2 _ _ _ (fun w _ _ => castInt_int _ w))
    · have e : castF 2 n noS 3 = (3, 0, ⟨(numText n).toArray⟩, true) := by simp [castF, h]
      rw [e]
      exact cast_impl_text 2 n noS 3 _ h (by rw [in2]; exact castValue_3 _ _ _ (fun w hT _ => castText_int _ w hT))
  · rcases ht with rfl | rfl | rfl
    · cases h1 : isTrue s
      · cases h2 : isFalse s
        · have e : castF 3 0 s 1 = (0, 0, noS, false) := by simp [castF, h, h1, h2]
          rw [e]
          exact cast_impl_fails 3 0 s 1 (iBool false) h (by rw [in3]; have := fun w => castBool_text s w; rw [h1, h2] at this; exact castValue_1 _ _ _ (fun w _ _ => this w))
        · have e : castF 3 0 s 1 = (1, 0, noS, true) := by simp [castF, h, h1, h2]
          rw [e]
          exact cast_impl_bool 3 0 s 1 false h (by rw [in3]; have := fun w => castBool_text s w; rw [h1, h2] at this; exact castValue_1 _ _ _ (fun w _ _ => this w))
      · have e : castF 3 0 s 1 = (1, 1, noS, true) := by simp [castF, h, h1]
        rw [e]
        exact cast_impl_bool 3 0 s 1 true h (by rw [in3]; have := fun w => castBool_text s w; rw [h1] at this; exact castValue_1 _ _ _ (fun w _ _ => this w))
    · cases hb : tnB s
      · have e : castF 3 0 s 2 = (0, 0, noS, false) := by simp [castF, h, hb]
        rw [e]
        exact cast_impl_fails 3 0 s 2 (iInt (tnV s)) h (by rw [in3]; have := fun w hT hE => castInt_text s (by omega) w hT hE; rw [hb] at this; exact castValue_2 _ _ _ this)
      · have e : castF 3 0 s 2 = (2, tnV s, noS, true) := by simp [castF, h, hb]
        rw [e]
        exact cast_impl_int 3 0 s 2 (tnV s) h (by rw [in3]; have := fun w hT hE => castInt_text s (by omega) w hT hE; rw [hb] at this; exact castValue_2 _ _ _ this)
    · have e : castF 3 0 s 3 = (3, 0, s, true) := by simp [castF, h]
      rw [e]
      exact cast_impl_text 3 0 s 3 s h (by rw [in3]; exact castValue_3 _ _ _ (fun w _ _ => castText_text _ w))
end Go.Proofs.YtmgoplamocgfladDoor
