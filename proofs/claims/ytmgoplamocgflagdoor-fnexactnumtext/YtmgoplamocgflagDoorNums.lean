/- Decimal numerals, plainly: what is written is read again; no program in sight. -/
import Derived.Lib.ItoaNum
import Derived.Lib.AtoiAll
namespace Go.Proofs.YtmgoplamocgflagDoor
open Go.Lib

/-- A number that the program writes. -/
def numB (n : Int) : Bool := decide (-1099511627775 ≤ n) && decide (n ≤ 1099511627775)
theorem numB_iff (n : Int) : numB n = true ↔ -1099511627775 ≤ n ∧ n ≤ 1099511627775 := by simp [numB]

/-- What digits spell, behind what was spelt before. -/
def val (a : Nat) (l : List UInt8) : Nat := l.foldl (fun x c => x * 10 + (c.toNat - 48)) a
theorem val_nil (a : Nat) : val a [] = a := by rw [val, List.foldl_nil]
theorem val_cons (a : Nat) (c : UInt8) (r : List UInt8) : val a (c :: r) = val (a * 10 + (c.toNat - 48)) r := by rw [val, List.foldl_cons, ← val]
theorem val_snoc (l : List UInt8) (a : Nat) (c : UInt8) : val a (l ++ [c]) = val a l * 10 + (c.toNat - 48) := by
  rw [val, List.foldl_append, List.foldl_cons, List.foldl_nil, ← val]
theorem val_ge (l : List UInt8) : ∀ (a : Nat), a ≤ val a l := by
  induction l with
  | nil => intro a; rw [val_nil]; exact Nat.le_refl _
  | cons d r ih => intro a; rw [val_cons]; exact Nat.le_trans (by omega : a ≤ a * 10 + (d.toNat - 48)) (ih _)
theorem val_lt (l : List UInt8) : ∀ (a : Nat), (∀ c ∈ l, 48 ≤ c.toNat ∧ c.toNat ≤ 57) → val a l + 1 ≤ (a + 1) * 10 ^ l.length := by
  induction l with
  | nil => intro a _; rw [val_nil, List.length_nil, Nat.pow_zero, Nat.mul_one]; exact Nat.le_refl _
  | cons d r ih =>
    intro a hd
    have h1 := hd d (by simp)
    have h0 : a * 10 + (d.toNat - 48) + 1 ≤ (a + 1) * 10 := by clear ih hd; omega
    have h2 := ih (a * 10 + (d.toNat - 48)) (fun c hc => hd c (by simp [hc]))
    rw [val_cons, List.length_cons, Nat.pow_succ, Nat.mul_comm (10 ^ r.length), ← Nat.mul_assoc]
    exact Nat.le_trans h2 (Nat.mul_le_mul_right _ h0)

theorem digit_byte (d : Nat) (h : d < 10) : (UInt8.ofNat (48 + d)).toNat = 48 + d := by
  rw [UInt8.toNat_ofNat']; omega
theorem dec_big (u : Nat) (h : ¬ u < 10) : decDigits u = decDigits (u / 10) ++ [UInt8.ofNat (48 + u % 10)] := by
  rw [decDigits, dif_neg h]
theorem dec_ne (u : Nat) : decDigits u ≠ [] := by
  by_cases h : u < 10
  · rw [decDigits_one h]; simp
  · rw [dec_big u h]; simp
theorem dec_dig (u : Nat) : ∀ c ∈ decDigits u, 48 ≤ c.toNat ∧ c.toNat ≤ 57 := by
  induction u using Nat.strongRecOn with
  | _ u ih =>
    by_cases h : u < 10
    · rw [decDigits_one h]; intro c hc; rw [List.mem_singleton] at hc; rw [hc, digit_byte u h]; omega
    · rw [dec_big u h]; intro c hc
      rw [List.mem_append, List.mem_singleton] at hc
      rcases hc with hc | hc
      · exact ih (u / 10) (by omega) c hc
      · rw [hc, digit_byte _ (by omega)]; omega
theorem dec_val (u : Nat) : val 0 (decDigits u) = u := by
  induction u using Nat.strongRecOn with
  | _ u ih =>
    by_cases h : u < 10
    · rw [decDigits_one h, val_cons, val_nil, digit_byte u h]; omega
    · rw [dec_big u h, val_snoc, ih (u / 10) (by omega), digit_byte _ (by omega)]; omega
theorem nDigits_le : ∀ (k u : Nat), 1 ≤ k → u < 10 ^ k → nDigits u ≤ k
  | 0, _, h, _ => by omega
  | 1, u, _, h => by rw [nDigits_small (by simpa using h)]; exact Nat.le_refl _
  | k + 2, u, _, h => by
    by_cases hu : u < 10
    · rw [nDigits_small hu]; omega
    · rw [nDigits_big hu]
      have := nDigits_le (k + 1) (u / 10) (by omega) (by rw [Nat.pow_succ] at h; omega)
      omega
theorem dec_len (u : Nat) (h : u ≤ 1099511627775) : 1 ≤ (decDigits u).length ∧ (decDigits u).length ≤ 13 := by
  rw [decDigits_length]
  exact ⟨nDigits_pos u, nDigits_le 13 u (by omega) (by omega)⟩

theorem parse_ok : ∀ (l : List UInt8) (a : Nat), (∀ c ∈ l, 48 ≤ c.toNat ∧ c.toNat ≤ 57) → val a l < 1844674407370955162 → parseUint10 a l = .ok (val a l)
  | [], a, _, _ => by rw [parseUint10, val_nil]
  | c :: r, a, hd, hv => by
    have h1 := hd c (by simp)
    have hg := val_ge r (a * 10 + (c.toNat - 48))
    rw [val_cons] at hv ⊢
    have := parse_ok r (a * 10 + (c.toNat - 48)) (fun x hx => hd x (by simp [hx])) hv
    rw [parseUint10, if_pos h1, if_neg (by omega), if_neg (by omega), this]
theorem mag_ok (u : Nat) (h : u ≤ 1099511627775) : parseMag (decDigits u) = .ok u := by
  rw [parseMag, if_neg (dec_ne u), parse_ok _ 0 (dec_dig u) (by rw [dec_val]; omega), dec_val]

/-- What is written is read again. -/
theorem atoi_itoa (n : Int) (h : numB n = true) : atoiAll (itoa n) = .ok n := by
  rw [numB_iff] at h
  unfold itoa
  by_cases hn : n < 0
  · rw [if_pos hn]
    unfold atoiAll
    have := mag_ok n.natAbs (by omega)
    simp only [show (45 : UInt8).toNat = 45 from rfl, or_true, if_true, this]
    rw [if_neg (by omega), if_neg (by omega)]
    congr 1
    omega
  · rw [if_neg hn]
    have hm := mag_ok n.toNat (by omega)
    have hd := dec_dig n.toNat
    cases hl : decDigits n.toNat with
    | nil => exact absurd hl (dec_ne _)
    | cons c r =>
      have hc := hd c (by rw [hl]; simp)
      rw [hl] at hm
      unfold atoiAll
      simp only []
      rw [if_neg (by omega), hm]
      simp only []
      rw [if_neg (by omega), if_neg (by omega), if_neg (by omega)]
      congr 1
      omega
theorem itoa_len (n : Int) (h : numB n = true) : 1 ≤ (itoa n).length ∧ (itoa n).length ≤ 14 := by
  rw [numB_iff] at h
  unfold itoa
  split
  · have := dec_len n.natAbs (by omega); simp; omega
  · have := dec_len n.toNat (by omega); omega
theorem itoa_ne (n : Int) : itoa n ≠ [] := by
  unfold itoa
  split
  · simp
  · exact dec_ne _

/-- The text of a number: empty where it is too great or too little. -/
def numText (n : Int) : List UInt8 := if numB n = true then itoa n else []
/-- The number that a text spells, if it is one's text. -/
def textNum (l : List UInt8) : Option Int :=
  match atoiAll l with
  | .ok n => if numB n = true ∧ itoa n = l then some n else .none
  | _ => .none
theorem textNum_some (l : List UInt8) (n : Int) : textNum l = some n ↔ numB n = true ∧ itoa n = l := by
  constructor
  · intro h
    unfold textNum at h
    split at h
    · split at h
      · rename_i hh; cases h; exact hh
      · cases h
    · cases h
  · rintro ⟨h, rfl⟩
    unfold textNum
    rw [atoi_itoa n h]
    simp [h]
theorem textNum_text (n : Int) (l : List UInt8) (hl : l ≠ []) (h : numText n = l) : textNum l = some n := by
  unfold numText at h
  split at h
  · rename_i hb; exact (textNum_some l n).2 ⟨hb, h⟩
  · exact absurd h.symm hl
theorem textNum_none (n : Int) (l : List UInt8) (hl : l ≠ []) (h : textNum l = .none) : numText n ≠ l := by
  intro e; rw [textNum_text n l hl e] at h; cases h
end Go.Proofs.YtmgoplamocgflagDoor
