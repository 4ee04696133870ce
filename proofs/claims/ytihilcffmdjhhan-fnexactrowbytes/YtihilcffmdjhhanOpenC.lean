/- Arguments opened: columns, rows of elements. -/
import Derived.Test.YtihilcffmdjhhanCl
import Derived.Test.YtihilcffmdjhhanCh
import Derived.Carry
import Derived.Lib.SmallJoins
namespace Go.Proofs.Ytihilcffmdjhhan
open Go.ChangeShapes Go.WideShapes Go.ChangeAt Go.RowKit

section
variable {H : Type} {enc : TypeId × Value → H} {w : World} {base : Nat} {spare : Nat → Bool} {held : Bool}
theorem list_of {α : Type} {p : Nat → α → Prop} : ∀ (n : Nat), (∀ i, i < n → ∃ a, p i a) → ∃ L : List α, L.length = n ∧ ∀ i (h : i < L.length), p i L[i]
  | 0, _ => ⟨[], rfl, fun i h => by simp at h⟩
  | n + 1, h => by
    obtain ⟨L, hl, hp⟩ := list_of n fun i hi => h i (by omega)
    obtain ⟨a, ha⟩ := h n (by omega)
    refine ⟨L ++ [a], by simp [hl], fun i hi => ?_⟩
    by_cases hin : i < L.length
    · rw [List.getElem_append_left hin]; exact hp i hin
    · simp at hi
      have : i = n := by omega
      subst this
      rw [List.getElem_append_right (by omega)]
      simpa [hl] using ha

set_option maxRecDepth 100000 in
/-- A slice, opened. -/
theorem open_row {α : Type} {t e : TypeId} {z : Nat} (cells : α → Array Value) (ok : α → Prop) (hz : ∀ a, (cells a).size = z) (hz0 : 0 < z) (ht : Try.prog.underlying t = some (.slice e)) (hc : Try.prog.cellsOf e = z)
    (hel : ∀ n cs y, DataW.trod enc Try.prog w base spare held n e cs = some y → ∃ a, cs = (cells a).toList ∧ ok a) {n : Nat} {cs : List Value} {y : DataW H × List MemPlace} (h : DataW.trod enc Try.prog w base spare held n t cs = some y) :
    ∃ (a : Option Addr) (L : List α) (cap : Nat), cs = [.slice a L.length cap] ∧ L.length ≤ cap ∧ cap ≤ maxLen ∧ RowAt w a z (L.map cells) ∧ ∀ x ∈ L, ok x := by
  rcases DataW.trod_slice ht h with ⟨rfl, rfl⟩ | ⟨a, len, cap, elems, rest, k, _, rfl, _, _, hlc, hcm, hlen, hx, _, _⟩
  · exact ⟨.none, [], 0, rfl, Nat.le_refl _, Nat.zero_le _, RowAt.nil _ _ _, fun x hx => by simp at hx⟩
  · rw [hc] at hx
    have hx' : ∀ i, i < len → ∃ x : α, ok x ∧ ∀ j, j < z → w.cell? ((a.add (i * z)).add j) = (cells x)[j]? := fun i hi => by
      have := hx i hi
      rw [List.getElem?_eq_getElem (by omega)] at this
      obtain ⟨cs', h1, h2⟩ := Option.bind_eq_some_iff.1 this
      obtain ⟨x, rfl, hk⟩ := hel _ _ _ h2
      obtain ⟨_, _, h3⟩ := World.cells?_some h1
      exact ⟨x, hk, fun j hj => by rw [h3 j hj]; simp⟩
    obtain ⟨L, hL, hp⟩ := list_of len hx'
    subst hL
    refine ⟨some a, L, cap, rfl, hlc, hcm, ⟨fun x hx => ?_, ?_⟩, fun x hx => ?_⟩
    · obtain ⟨y, _, rfl⟩ := List.mem_map.1 hx; exact hz y
    · by_cases h0 : L.length = 0
      · left; simp [List.length_eq_zero_iff.1 h0]
      · right
        obtain ⟨b, off, sp⟩ := a
        have hsp : sp = .none := by
          have h1 := (hp 0 (by omega)).2 0 hz0
          rw [Array.getElem?_eq_getElem (by rw [hz]; exact hz0)] at h1
          unfold World.cell? at h1
          simp [Addr.add] at h1
          split at h1
          · simp at h1; exact h1.1
          · cases h1
        subst hsp
        refine ⟨b, off, rfl, fun i hi j hj => ?_⟩
        simp only [List.length_map] at hi
        rw [List.getElem_map, ← (hp i hi).2 j hj, add_add]
    · obtain ⟨i, hi, rfl⟩ := List.getElem_of_mem hx; exact (hp i hi).1
end
end Go.Proofs.Ytihilcffmdjhhan
