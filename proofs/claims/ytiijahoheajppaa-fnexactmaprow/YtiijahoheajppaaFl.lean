/- A variable of several cells laid anew. -/
import Derived.Test.YtiijahoheajppaaWm
namespace Go.Proofs.Ytiijahoheajppaa
open Go.ChangeShapes Go.WideShapes Go.ChangeAt Go.RowKit

theorem own_stores {b : Nat} {T : TypeId} : ∀ (vs pre old : List Value) (w : World), old.length = vs.length → Own w b T (pre ++ old).toArray → Own (stores w b pre.length vs) b T (pre ++ vs).toArray
  | [], pre, old, w, hl, h => by
    have : old = [] := List.length_eq_zero_iff.1 hl
    subst this; exact h
  | v :: r, pre, [], w, hl, h => by simp at hl
  | v :: r, pre, o :: os, w, hl, h => by
    have h1 := h.set pre.length v
    have e : (pre ++ o :: os).toArray.setIfInBounds pre.length v = ((pre ++ [v]) ++ os).toArray := by
      apply Array.toList_inj.1
      simp
    rw [e] at h1
    have := own_stores r (pre ++ [v]) os _ (by simpa using hl) h1
    simpa [stores] using this
theorem Own.fill {w : World} {b : Nat} {T : TypeId} {old : List Value} (h : Own w b T old.toArray) (vs : List Value) (hl : old.length = vs.length) : Own (stores w b 0 vs) b T vs.toArray := own_stores vs [] old w hl h
theorem Own.past {b c : Nat} {T : TypeId} {cells : Array Value} (hc : b ≠ c) : ∀ (vs : List Value) (w : World) (o : Nat), Own w b T cells → Own (stores w c o vs) b T cells
  | [], _, _, h => h
  | v :: r, _, o, h => Own.past hc r _ (o + 1) (h.other hc v)
theorem stores_turns (b : Nat) : ∀ (vs : List Value) (a w : World) (o : Nat), Turns (fun c => c = b) a w → Turns (fun c => c = b) a (stores w b o vs)
  | [], _, _, _, h => h
  | v :: r, a, _, o, h => stores_turns b r a _ (o + 1) (h.set (p := ⟨b, o, none⟩) rfl v)
theorem Own.turned {w w' : World} {b : Nat} {T : TypeId} {cells : Array Value} (h : Own w b T cells) {S : Nat → Prop} (k : Turns S w w') (hb : ¬ S b) : Own w' b T cells := (k.block b (Array.getElem?_eq_some_iff.1 h).1 hb).trans h
end Go.Proofs.Ytiijahoheajppaa
