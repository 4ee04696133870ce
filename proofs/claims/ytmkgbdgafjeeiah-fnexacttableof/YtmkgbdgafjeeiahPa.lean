/- Names that rise, and the place of a table among them. -/
import Derived.Test.YtmkgbdgafjeeiahOf
namespace Go.Proofs.Ytmkgbdgafjeeiah
open Go.ChangeShapes Go.WideShapes Go.ChangeAt Go.RowKit

theorem less_irrefl : ∀ x : List UInt8, Op.bytesLess x x = false
  | [] => rfl
  | a :: x => by simp [Op.bytesLess, less_irrefl x]
theorem less_trans : ∀ x y z : List UInt8, Op.bytesLess x y = true → Op.bytesLess y z = true → Op.bytesLess x z = true
  | _, [], _, h, _ => by simp [Op.bytesLess] at h
  | _, _ :: _, [], _, k => by simp [Op.bytesLess] at k
  | [], _ :: _, _ :: _, _, _ => by simp [Op.bytesLess]
  | a :: x, b :: y, c :: z, h, k => by
    simp only [Op.bytesLess, Bool.or_eq_true, Bool.and_eq_true, decide_eq_true_eq, beq_iff_eq] at h k ⊢
    rcases h with h | ⟨rfl, h⟩ <;> rcases k with k | ⟨rfl, k⟩
    · exact Or.inl (UInt8.lt_trans h k)
    · exact Or.inl h
    · exact Or.inl k
    · exact Or.inr ⟨rfl, less_trans x y z h k⟩
theorem cat_rise {ts : List Tc} (h : catRight ts) : ∀ (d i : Nat) (hi : i + d + 1 < ts.length), lessB' ts[i].name ts[i + d + 1].name = true
  | 0, i, hi => h.2.2 i hi
  | d + 1, i, hi => less_trans _ _ _ (cat_rise h d i (by omega)) (h.2.2 (i + d + 1) hi)
theorem place_at {ts : List Tc} (h : catRight ts) {s : ByteArray} {k : Nat} {q : Bool} (hk : k ≤ ts.length) (h1 : ∀ j (h : j < ts.length), j < k → lessB' ts[j].name s = true) (h2 : ∀ h : k < ts.length, lessB' ts[k].name s = false ∧ (q = true ↔ ts[k].name = s)) (h3 : k = ts.length → q = false) :
    (q = true ∧ k < ts.length ∧ tabAt ts s = k) ∨ (q = false ∧ tabAt ts s = -1) := by
  have hlow : ∀ j (h : j < ts.length), j < k → ts[j].name ≠ s := fun j hj hlt e => by
    have := h1 j hj hlt
    rw [e] at this
    have h0 := less_irrefl s.toList
    unfold lessB' at this
    rw [h0] at this
    cases this
  cases q
  · refine Or.inr ⟨rfl, tabAt_none fun j hj e => ?_⟩
    rcases Nat.lt_trichotomy j k with hlt | rfl | hgt
    · exact hlow j hj hlt e
    · have := (h2 hj).2.2 e; cases this
    · have hkl : k < ts.length := by omega
      obtain ⟨d, hd⟩ : ∃ d, j = k + d + 1 := ⟨j - k - 1, by omega⟩
      subst hd
      have := cat_rise h d k hj
      rw [e] at this
      rw [(h2 hkl).1] at this
      cases this
  · have hkl : k < ts.length := by
      rcases Nat.lt_or_eq_of_le hk with h | h
      · exact h
      · have := h3 h; cases this
    exact Or.inl ⟨rfl, hkl, tabAt_some hkl ((h2 hkl).2.1 rfl) hlow⟩

theorem tabAt_lt (ts : List Tc) (s : ByteArray) : tabAt ts s = -1 ∨ ∃ i : Nat, tabAt ts s = i ∧ i < ts.length := by
  unfold tabAt
  cases h : ts.findIdx? (fun t => decide (t.name = s)) with
  | none => exact Or.inl rfl
  | some i => exact Or.inr ⟨i, rfl, (List.findIdx?_eq_some_iff_getElem.1 h).1⟩
end Go.Proofs.Ytmkgbdgafjeeiah
