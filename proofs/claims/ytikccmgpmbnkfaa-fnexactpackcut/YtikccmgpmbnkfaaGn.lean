/- Numbers as bytes, read; the sum: given and landed. -/
import Derived.Test.YtikccmgpmbnkfaaPn
namespace Go.Proofs.Ytikccmgpmbnkfaa
open Go.ChangeShapes Go.WideShapes Go.ChangeAt Go.RowKit

/-- The sum of some bytes. -/
def sumL (l : List UInt8) : Nat := l.foldl (fun n c => (257 * n + c.toNat + 1) % 16777213) 1
theorem sumL_snoc (l : List UInt8) (c : UInt8) : sumL (l ++ [c]) = (257 * sumL l + c.toNat + 1) % 16777213 := by simp [sumL]
/-- The number that some bytes are, behind n. -/
def getF (n : Nat) (l : List UInt8) : Nat := l.foldl (fun n c => n * 256 + c.toNat) n
def getL (l : List UInt8) (a s : Nat) : Nat := getF 0 ((l.drop a).take s)
theorem getF_lt : ∀ (l : List UInt8) (n : Nat), getF n l < (n + 1) * 256 ^ l.length
  | [], n => by simp [getF]
  | c :: r, n => by
    have h := getF_lt r (n * 256 + c.toNat)
    have hc : c.toNat < 256 := c.toNat_lt
    have e : getF n (c :: r) = getF (n * 256 + c.toNat) r := rfl
    rw [e, List.length_cons, Nat.pow_succ]
    refine Nat.lt_of_lt_of_le h ?_
    have : (n * 256 + c.toNat + 1) * 256 ^ r.length ≤ ((n + 1) * 256) * 256 ^ r.length := Nat.mul_le_mul_right _ (by omega)
    refine Nat.le_trans this (Nat.le_of_eq ?_)
    rw [Nat.mul_assoc, Nat.mul_comm 256]
theorem getF_snoc (l : List UInt8) (n : Nat) (c : UInt8) : getF n (l ++ [c]) = getF n l * 256 + c.toNat := by simp [getF]
def okGet (l : List UInt8) (a s : Int) : Prop := 1 ≤ s ∧ s ≤ 6 ∧ 0 ≤ a ∧ a ≤ l.length - s
theorem get_step {l : List UInt8} {a k : Nat} (h : a + k < l.length) : getF 0 ((l.drop a).take (k + 1)) = getF 0 ((l.drop a).take k) * 256 + (l[a + k]).toNat := by
  have h1 : k < (l.drop a).length := by simp; omega
  rw [List.take_succ_eq_append_getElem h1, getF_snoc, List.getElem_drop]
theorem get_lt {l : List UInt8} {a k : Nat} (hk : k ≤ 5) : getF 0 ((l.drop a).take k) < 1099511627776 := by
  have h := getF_lt ((l.drop a).take k) 0
  have h1 : ((l.drop a).take k).length ≤ k := by simp; omega
  have h2 : 256 ^ ((l.drop a).take k).length ≤ 256 ^ 5 := Nat.pow_le_pow_right (by omega) (by omega)
  have h3 : (256 : Nat) ^ 5 = 1099511627776 := by decide
  omega
end Go.Proofs.Ytikccmgpmbnkfaa
