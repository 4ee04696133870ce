/- The landed Cast: its contract. What Cast answers, plainly, and that the landed one does. -/
import Derived.Test.YtmkgbdgafjeeiamDoorMeths
namespace Go.Proofs.YtmkgbdgafjeeiamDoor
open Go.ChangeShapes Go.WideShapes Go.ChangeAt Go.RowKit

/-- A contract that wants the library's variables. -/
def Does (f : FuncId) (args : Array Value) (r : Value) : Prop := ∀ w : World, Tab w → Errs w → Calls Tryd.prog f args w fun e w' => e = .returned r ∧ Below w.heap.size w w'
abbrev pr (x : Value) (b : Bool) : Value := .tuple #[x, .bool b]

/-- What Cast answers: a value and true, or nothing and false. -/
abbrev cR (ty n : Int) (s : ByteArray) (b : Bool) : Value := .tuple #[V ty n s, .bool b]

end Go.Proofs.YtmkgbdgafjeeiamDoor

namespace Go.Proofs.YtmkgbdgafjeeiamDoor
open Go.ChangeShapes Go.WideShapes Go.ChangeAt Go.RowKit

/-- What Cast answers: the value's three fields, and whether there is one. -/
def castF (ty n : Int) (s : ByteArray) (tg : Int) : Int × Int × ByteArray × Bool :=
  if okB ty n s = false then (0, 0, noS, false)
  else if tg < 1 ∨ 3 < tg then (0, 0, noS, false)
  else if ty = 0 then (0, 0, noS, true)
  else if ty = tg then (ty, n, s, true)
  else if tg = 3 then (if ty = 1 then (3, 0, bS (n == 1), true) else (3, 0, ⟨(numText n).toArray⟩, true))
  else if ty = 3 then
    (if tg = 1 then (if isTrue s = true then (1, 1, noS, true) else if isFalse s = true then (1, 0, noS, true) else (0, 0, noS, false))
     else if tnB s = true then (2, tnV s, noS, true) else (0, 0, noS, false))
  else if tg = 2 then (2, n, noS, true)
  else if n = 0 ∨ n = 1 then (1, n, noS, true) else (0, 0, noS, false)
abbrev cRF (p : Int × Int × ByteArray × Bool) : Value := cR p.1 p.2.1 p.2.2.1 p.2.2.2

theorem noS_of (s : ByteArray) (h : s.toList.isEmpty = true) : s = noS := by
  rw [ByteArray.toList_eq, List.isEmpty_iff] at h
  apply ByteArray.ext
  rw [← Array.toList_inj, h]
theorem ok_cases (ty n : Int) (s : ByteArray) (h : okB ty n s = true) :
    (ty = 0 ∧ n = 0 ∧ s = noS) ∨ (ty = 1 ∧ (n = 0 ∨ n = 1) ∧ s = noS) ∨ (ty = 2 ∧ numB n = true ∧ s = noS) ∨ (ty = 3 ∧ n = 0 ∧ s.size ≤ 30) := by
  unfold okB at h
  split at h
  · rename_i h0
    simp only [Bool.and_eq_true, beq_iff_eq] at h
    exact Or.inl ⟨h0, h.1, noS_of s h.2⟩
  · split at h
    · rename_i h0
      simp only [Bool.and_eq_true, Bool.or_eq_true, beq_iff_eq] at h
      exact Or.inr (Or.inl ⟨h0, h.1, noS_of s h.2⟩)
    · split at h
      · rename_i h0
        simp only [Bool.and_eq_true] at h
        exact Or.inr (Or.inr (Or.inl ⟨h0, h.1, noS_of s h.2⟩))
      · split at h
        · rename_i h0
          simp only [Bool.and_eq_true, beq_iff_eq, decide_eq_true_eq] at h
          exact Or.inr (Or.inr (Or.inr ⟨h0, h.1, h.2⟩))
        · cases h
theorem to_cases (tg : Int) : (tg < 1 ∨ 3 < tg) ∨ tg = 1 ∨ tg = 2 ∨ tg = 3 := by omega
theorem bN_of (n : Int) (h : n = 0 ∨ n = 1) : bN (n == 1) = n := by rcases h with rfl | rfl <;> rfl
theorem in0 (n : Int) (s : ByteArray) : inner 0 n s = iNull := rfl
theorem in1 (n : Int) (s : ByteArray) : inner 1 n s = iBool (n == 1) := rfl
theorem in2 (n : Int) (s : ByteArray) : inner 2 n s = iInt n := rfl
theorem in3 (n : Int) (s : ByteArray) : inner 3 n s = iText s := rfl

end Go.Proofs.YtmkgbdgafjeeiamDoor
