/- The landed columns by name: one there, one more, one out, one with another name. -/
import Derived.Test.YtiijahoheajppaaMq
import Derived.Test.YtiijahoheajppaaPl
import Derived.Test.YtiijahoheajppaaFl
namespace Go.Proofs.Ytiijahoheajppaa
open Go.ChangeShapes Go.WideShapes Go.ChangeAt Go.RowKit

theorem pent_find (M : List (Int × Cl)) (s : ByteArray) : (M.map pent).find? (fun p => decide (p.1 = s)) = (M.find? fun p => decide (p.2.name = s)).map pent := by
  rw [List.find?_map]; rfl
def named (M : List (Int × Cl)) (s : ByteArray) : Bool := M.any fun p => decide (p.2.name = s)
theorem named_none {M : List (Int × Cl)} {s : ByteArray} (h : named M s = false) : M.find? (fun p => decide (p.2.name = s)) = .none := by
  rw [List.find?_eq_none]; intro p hp; have := List.any_eq_false.1 h p hp; simpa using this
theorem named_some {M : List (Int × Cl)} {s : ByteArray} (h : named M s = true) : ∃ q, M.find? (fun p => decide (p.2.name = s)) = some q ∧ q ∈ M ∧ q.2.name = s := by
  cases hq : M.find? (fun p => decide (p.2.name = s)) with
  | none =>
    obtain ⟨p, hp, e⟩ := List.any_eq_true.1 h
    have := List.find?_eq_none.1 hq p hp
    rw [e] at this; exact absurd rfl this
  | some q =>
    have h6 := @List.find?_some _ (fun p : Int × Cl => decide (p.2.name = s)) _ _ hq
    exact ⟨q, rfl, List.mem_of_find?_eq_some hq, by simpa using h6⟩
/-- The place of a text among texts. -/
def idxS (ks : List ByteArray) (s : ByteArray) : Int := match ks.findIdx? (fun k => decide (k = s)) with | some i => i | .none => -1
theorem idxS_some {ks : List ByteArray} {s : ByteArray} {k : Nat} (hk : k < ks.length) (he : ks[k] = s) (hn : ∀ j (h : j < ks.length), j < k → ks[j] ≠ s) : idxS ks s = k := by
  unfold idxS
  rw [show ks.findIdx? (fun k => decide (k = s)) = some k from List.findIdx?_eq_some_iff_getElem.2 ⟨hk, by simpa using he, fun j hj => by simpa using hn j (by omega) hj⟩]
theorem idxS_none {ks : List ByteArray} {s : ByteArray} (hn : ∀ j (h : j < ks.length), ks[j] ≠ s) : idxS ks s = -1 := by
  unfold idxS
  rw [show ks.findIdx? (fun k => decide (k = s)) = .none from List.findIdx?_eq_none_iff.2 fun x hx => by obtain ⟨i, hi, rfl⟩ := List.getElem_of_mem hx; simpa using hn i hi]
theorem idxS_iff (ks : List ByteArray) (s : ByteArray) : (idxS ks s = -1 ∧ s ∉ ks) ∨ ∃ k, ∃ h : k < ks.length, idxS ks s = k ∧ ks[k] = s ∧ ∀ j (h : j < ks.length), j < k → ks[j] ≠ s := by
  cases hf : ks.findIdx? (fun k => decide (k = s)) with
  | none =>
    have := List.findIdx?_eq_none_iff.1 hf
    exact Or.inl ⟨by unfold idxS; rw [hf], fun h => by have := this s h; simp at this⟩
  | some i =>
    obtain ⟨hi, he, hn⟩ := List.findIdx?_eq_some_iff_getElem.1 hf
    exact Or.inr ⟨i, hi, by unfold idxS; rw [hf], by simpa using he, fun j h hj => by simpa using hn j hj⟩
def inS (ks : List ByteArray) (s : ByteArray) : Bool := ks.any fun k => decide (k = s)
theorem inS_yes {ks : List ByteArray} {s : ByteArray} (h : s ∈ ks) : inS ks s = true := List.any_eq_true.2 ⟨s, h, by simp⟩
theorem inS_no {ks : List ByteArray} {s : ByteArray} (h : s ∉ ks) : inS ks s = false := by
  rw [inS, List.any_eq_false]; intro k hk e; have e : k = s := by simpa using e
  exact h (e ▸ hk)
theorem named_filter {M : List (Int × Cl)} {s t : ByteArray} (h : named M t = false) : named (M.filter fun p => decide (p.2.name ≠ s)) t = false := by
  unfold named at h ⊢
  rw [List.any_eq_false] at h ⊢
  exact fun p hp => h p (List.mem_filter.1 hp).1
/-- One with another name. -/
def Cl.as (c : Cl) (t : ByteArray) : Cl := ⟨t, c.ty, c.nt, c.has, c.dt, c.dn, c.ds⟩
end Go.Proofs.Ytiijahoheajppaa
