/- The order of values is an order, and their texts: plainly. -/
import Derived.Test.YtmkgbdgafjeeiamDoorCastLaw
import Derived.Test.YtmkgbdgafjeeiamDoorCastLaw
import Derived.Test.YtmkgbdgafjeeiamDoorValPlain
namespace Go.Proofs.YtmkgbdgafjeeiamDoor
open Go.ChangeShapes Go.WideShapes Go.ChangeAt Go.RowKit

theorem bl_irrefl : ∀ l : List UInt8, Op.bytesLess l l = false
  | [] => rfl
  | c :: r => by simp [Op.bytesLess, bl_irrefl r]
theorem bl_flip : ∀ a b : List UInt8, a ≠ b → Op.bytesLess a b = !Op.bytesLess b a
  | [], [], h => absurd rfl h
  | [], _ :: _, _ => rfl
  | _ :: _, [], _ => rfl
  | c :: a, d :: b, h => by
    simp only [Op.bytesLess]
    by_cases e : c = d
    · subst e
      have hab : a ≠ b := fun e => h (by rw [e])
      simp [bl_flip a b hab]
    · have e1 : (c == d) = false := by simp [e]
      have e2 : (d == c) = false := by simp; exact fun x => e x.symm
      rw [e1, e2]
      simp only [Bool.false_and, Bool.or_false]
      by_cases hl : c < d
      · have hl' : ¬ d < c := by simp [UInt8.lt_iff_toNat_lt] at hl ⊢; omega
        simp [hl, hl']
      · have hl' : d < c := by
          have : c.toNat ≠ d.toNat := fun x => e (UInt8.toNat_inj.1 x)
          simp [UInt8.lt_iff_toNat_lt] at hl ⊢; omega
        simp [hl, hl']
theorem less_no1 (t1 n1 : Int) (s1 : ByteArray) (t2 n2 : Int) (s2 : ByteArray) (h : okB t1 n1 s1 = false) : lessB t1 n1 s1 t2 n2 s2 = false := by simp [lessB, h]
theorem less_no2 (t1 n1 : Int) (s1 : ByteArray) (t2 n2 : Int) (s2 : ByteArray) (h : okB t2 n2 s2 = false) : lessB t1 n1 s1 t2 n2 s2 = false := by simp [lessB, h]
theorem less_same (t n : Int) (s : ByteArray) : lessB t n s t n s = false := by simp [lessB, bl_irrefl]
theorem less_flip (t1 n1 : Int) (s1 : ByteArray) (t2 n2 : Int) (s2 : ByteArray) (h1 : okB t1 n1 s1 = true) (h2 : okB t2 n2 s2 = true) (h : ¬ (t1 = t2 ∧ n1 = n2 ∧ s1.toList = s2.toList)) :
    lessB t1 n1 s1 t2 n2 s2 = !lessB t2 n2 s2 t1 n1 s1 := by
  by_cases ht : t1 = t2
  · subst ht
    by_cases hn : n1 = n2
    · subst hn
      have := bl_flip s1.toList s2.toList (fun e => h ⟨rfl, rfl, e⟩)
      simp [lessB, h1, h2, this]
    · have e1 : (n1 == n2) = false := by simp [hn]
      have e2 : (n2 == n1) = false := by simp; omega
      simp only [lessB, h1, h2, and_self, if_true, e1, e2, Bool.false_and, Bool.or_false]
      by_cases hl : n1 < n2
      · have : ¬ n2 < n1 := by omega
        simp [hl, this]
      · have : n2 < n1 := by omega
        simp [hl, this]
  · have ht' : ¬ t2 = t1 := fun e => ht e.symm
    simp only [lessB, h1, h2, and_self, if_true, ht, ht', if_false]
    by_cases hl : t1 < t2
    · have : ¬ t2 < t1 := by omega
      simp [hl, this]
    · have : t2 < t1 := by omega
      simp [hl, this]
theorem castF_self (ty n : Int) (s : ByteArray) (h : okB ty n s = true) (h0 : ty ≠ 0) : castF ty n s ty = (ty, n, s, true) := by
  have hto : ¬ (ty < 1 ∨ 3 < ty) := by
    rcases ok_cases ty n s h with ⟨rfl, _⟩ | ⟨rfl, _⟩ | ⟨rfl, _⟩ | ⟨rfl, _⟩ <;> omega
  rw [castF, if_neg (by rw [h]; simp), if_neg hto, if_neg h0, if_pos rfl]
theorem vt_size (ty n : Int) (s : ByteArray) : (valText ty n s).size ≤ 1048576 := by
  cases h : okB ty n s
  · rw [valText, if_pos h]; decide
  · rcases vt_cases ty n s h with ⟨_, _, _, e⟩ | ⟨_, _, _, e⟩ | ⟨_, _, _, e⟩ | ⟨_, hn, _, e⟩ | ⟨_, _, hs, e⟩
    · rw [e]; decide
    · rw [e]; decide
    · rw [e]; decide
    · rw [e, mk_size]; have := itoa_len n hn; omega
    · rw [e, mk_size]
      unfold quoted
      have := G_len s s.size
      rw [List.length_append]
      simp
      omega
theorem vt_some (ty n : Int) (s : ByteArray) (h : okB ty n s = true) : (valText ty n s).toList.isEmpty = false := by
  have := (vt_first ty n s h).1
  rw [ByteArray.toList_eq]
  simpa using this
theorem tvr_yes (ty n : Int) (s : ByteArray) (h : okB ty n s = true) {ty' n' : Int} {r' : ByteArray} {b' : Bool} (k : TvR (valText ty n s) ty' n' r' b') : ty' = ty ∧ n' = n ∧ r' = s ∧ b' = true :=
  k.unique (TvR.yes rfl (vt_first ty n s h).1)
theorem tvr_no {ty' n' : Int} {r' : ByteArray} {b' : Bool} (k : TvR noS ty' n' r' b') : ty' = 0 ∧ n' = 0 ∧ r' = noS ∧ b' = false :=
  k.unique (TvR.none (fun _ _ _ h => tv_nonempty _ _ _ _ h rfl))
/-- The order of two right values, and whether they are one. -/
def Ord (t1 n1 : Int) (s1 : ByteArray) (t2 n2 : Int) (s2 : ByteArray) (l m : Bool) : Prop :=
  ((t1 == t2) = false ∧ l = !m) ∨ (t1 = t2 ∧ (n1 == n2) = false ∧ l = !m) ∨ (t1 = t2 ∧ n1 = n2 ∧ (s1.toList == s2.toList) = false ∧ l = !m) ∨ (t1 = t2 ∧ n1 = n2 ∧ (s1.toList == s2.toList) = true ∧ l = false ∧ m = false)
theorem ord_of (t1 n1 : Int) (s1 : ByteArray) (t2 n2 : Int) (s2 : ByteArray) (h1 : okB t1 n1 s1 = true) (h2 : okB t2 n2 s2 = true) : Ord t1 n1 s1 t2 n2 s2 (lessB t1 n1 s1 t2 n2 s2) (lessB t2 n2 s2 t1 n1 s1) := by
  have hf := less_flip t1 n1 s1 t2 n2 s2 h1 h2
  by_cases ht : t1 = t2
  · by_cases hn : n1 = n2
    · by_cases hs : s1.toList = s2.toList
      · subst ht hn
        refine Or.inr (Or.inr (Or.inr ⟨rfl, rfl, by simp [hs], ?_, ?_⟩))
        · simp [lessB, hs, bl_irrefl]
        · simp [lessB, hs, bl_irrefl]
      · exact Or.inr (Or.inr (Or.inl ⟨ht, hn, by simp [hs], hf (fun h => hs h.2.2)⟩))
    · exact Or.inr (Or.inl ⟨ht, by simp [hn], hf (fun h => hn h.2.1)⟩)
  · exact Or.inl ⟨by simp [ht], hf (fun h => ht h.1)⟩
end Go.Proofs.YtmkgbdgafjeeiamDoor
