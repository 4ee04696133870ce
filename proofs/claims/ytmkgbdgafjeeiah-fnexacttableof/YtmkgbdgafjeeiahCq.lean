/- Rows copied: given and landed. -/
import Derived.Test.YtmkgbdgafjeeiahCn
import Derived.Test.YtmkgbdgafjeeiahFm
namespace Go.Proofs.Ytmkgbdgafjeeiah
open Go.ChangeShapes Go.WideShapes Go.ChangeAt Go.RowKit

/-- A row of the call's own lies in a block of its elements' type. -/
theorem Got.tag {w : World} {B : Nat} {T : TypeId} {z : Nat} {v : Value} {xs : List (Array Value)} (h : Got w B T z v xs) {c : Nat} (hc : v.ownBlock = some c) : ∃ cur, w.heap[c]? = some (.cells cur T (0, 0)) := by
  rcases h.2.2 with ⟨rfl, _⟩ | ⟨g, cap, cur, rfl, _, hg, _⟩
  · cases hc
  · simp [Value.ownBlock] at hc; subst hc; exact ⟨cur, hg⟩
theorem Got.apart {w : World} {B B' : Nat} {T T' : TypeId} {z z' : Nat} {v v' : Value} {xs xs' : List (Array Value)} (h : Got w B T z v xs) (h' : Got w B' T' z' v' xs') (hT : T ≠ T') {c : Nat} (hc : v.ownBlock = some c) : v'.ownBlock ≠ some c := fun hc' => by
  obtain ⟨_, e⟩ := h.tag hc
  obtain ⟨_, e'⟩ := h'.tag hc'
  rw [e] at e'
  cases e'
  exact hT rfl
theorem Got.turned {w w' : World} {B : Nat} {T : TypeId} {z : Nat} {v : Value} {xs : List (Array Value)} (h : Got w B T z v xs) {S : Nat → Prop} (k : Turns S w w') (hS : ∀ c, v.ownBlock = some c → ¬ S c) : Got w' B T z v xs := by
  refine ⟨h.1, h.2.1, ?_⟩
  rcases h.2.2 with hn | ⟨g, cap, cur, rfl, hb, hg, rest⟩
  · exact Or.inl hn
  · exact Or.inr ⟨g, cap, cur, rfl, hb, (k.block g (Array.getElem?_eq_some_iff.1 hg).1 (hS g rfl)).trans hg, rest⟩

end Go.Proofs.Ytmkgbdgafjeeiah
