/- Rows of values of a call's own, marked and read again. -/
import Derived.Test.YtihilcffmdjhhafDoorMarkV
namespace Go.Proofs.YtihilcffmdjhhafDoor
open Go.ChangeShapes Go.WideShapes Go.ChangeAt Go.RowKit

theorem Turns.toBelow {S : Nat → Prop} {a b : World} (h : Turns S a b) {B : Nat} (hB : ∀ c, S c → B ≤ c) (hs : B ≤ a.heap.size) : Below B a b :=
  ⟨h.os, h.tape, h.output, h.size, fun i hi => h.block i (by omega) fun hc => by have := hB i hc; omega⟩
theorem Got.turns {w w' : World} {B : Nat} {T : TypeId} {z : Nat} {v : Value} {xs : List (Array Value)} (h : Got w B T z v xs) {S : Nat → Prop} (k : Turns S w w') (hS : ∀ c, S c → c < B) : Got w' B T z v xs := by
  obtain ⟨h0, h1, h2⟩ := h
  refine ⟨h0, h1, ?_⟩
  rcases h2 with h2 | ⟨g, cap, cur, e, hb, hg, r⟩
  · exact Or.inl h2
  · exact Or.inr ⟨g, cap, cur, e, hb, (k.block g (Array.getElem?_eq_some_iff.1 hg).1 fun hc => by have := hS g hc; omega).trans hg, r⟩
/-- The values behind a slice are marks, from k on. -/
def Held (w : World) (v : Value) (k n : Nat) : Prop := (v = .slice none 0 0 ∧ n = 0) ∨ ∃ b cap m T f, v = .slice (some ⟨b, 0, none⟩) n cap ∧ w.rowIs b T m f ∧ n * 3 ≤ m ∧ ∀ i, i < n * 3 → f i = markV k i
theorem Held.on {w w' : World} {v : Value} {k n : Nat} (h : Held w v k n) (b : Below w.heap.size w w') : Held w' v k n := by
  rcases h with h | ⟨b', cap, m, T, f, e, h1, h2⟩
  · exact Or.inl h
  · exact Or.inr ⟨b', cap, m, T, f, e, rowIs_on h1 b, h2⟩
theorem Fill.rowIs {w : World} {B : Nat} {T : TypeId} {z n : Nat} {xs : List (Array Value)} (h : Fill w B T z n xs) : ∃ f, w.rowIs B T (n * z) f := by
  obtain ⟨_, _, f, hr, _⟩ := h; exact ⟨f, hr⟩
end Go.Proofs.YtihilcffmdjhhafDoor
