/- Decimal numerals, plainly: what is written is read again; no program in sight. -/
import Derived.Lib.ItoaNum
import Derived.Lib.AtoiAll
namespace Go.Proofs.Ytiijahoheajppaa
open Go.Lib

/-- A number that the program writes. -/
def numB (n : Int) : Bool := decide (-1099511627775 ≤ n) && decide (n ≤ 1099511627775)
theorem numB_iff (n : Int) : numB n = true ↔ -1099511627775 ≤ n ∧ n ≤ 1099511627775 := by simp [numB]

/-- What digits spell, behind what was spelt before. -/
def val (a : Nat) (l : List UInt8) : Nat := l.foldl (fun x c => x * 10 + (c.toNat - 48)) a
theorem val_nil (a : Nat) : val a [] = a := by rw [val, List.foldl_nil]
theorem val_cons (a : Nat) (c : UInt8) (r : List UInt8) : val a (c :: r) = val (a * 10 + (c.toNat - 48)) r := by rw [val, List.foldl_cons, ← val]
theorem val_snoc (l : List UInt8) (a : Nat) (c : UInt8) : val a (l ++ [c]) = val a l * 10 + (c.toNat - 48) := by
  rw [val, List.foldl_append, List.foldl_cons, List.foldl_nil, ← val]
theorem val_ge (l : List UInt8) : ∀ (a : Nat), a ≤ val a l := by
  induction l with
  | nil => intro a; rw [val_nil]; exact Nat.le_refl _
  | cons d r ih => intro a; rw [val_cons]; exact Nat.le_trans (by omega : a ≤ a * 10 + (d.toNat - 48)) (ih _)
theorem val_lt (l : List UInt8) : ∀ (a : Nat), (∀ c ∈ l, 48 ≤ c.toNat ∧ c.toNat ≤ 57) → val a l + 1 ≤ (a + 1) * 10 ^ l.length := by
  induction l with
  | nil => intro a _; rw [val_nil, List.length_nil, Nat.pow_zero, Nat.mul_one]; exact Nat.le_refl _
  | cons d r ih =>
    intro a hd
    have h1 := hd d (by simp)
    have h0 : a * 10 + (d.toNat - 48) + 1 ≤ (a + 1) * 10 := by clear ih hd; omega
    have h2 := ih (a * 10 + (d.toNat - 48)) (fun c hc => hd c (by simp [hc]))
    rw [val_cons, List.length_cons, Nat.pow_succ, Nat.mul_comm (10 ^ r.length), ← Nat.mul_assoc]
    exact Nat.le_trans h2 (Nat.mul_le_mul_right _ h0)

theorem digit_byte (d : Nat) (h : d < 10) : (UInt8.ofNat (48 + d)).toNat = 48 + d := by
  rw [UInt8.toNat_ofNat']; omega
theorem dec_big (u : Nat) (h : ¬ u < 10) : decDigits u = decDigits (u / 10) ++ [UInt8.ofNat (48 + u % 10)] := by
  rw [decDigits, dif_neg h]
theorem dec_ne (u : Nat) : decDigits u ≠ [] := by
  by_cases h : u < 10
  · rw [decDigits_one h]; simp
  · rw [dec_big u h]; simp
theorem dec_dig (u : Nat) : ∀ c ∈ decDigits u, 48 ≤ c.toNat ∧ c.toNat ≤ 57 := by
  induction u using Nat.strongRecOn with
  | _ u ih =>
    by_cases h : u < 10
    · rw [decDigits_one h]; intro c hc; rw [List.mem_singleton] at hc; rw [hc, digit_byte u h]; omega
    · rw [dec_big u h]; intro c hc
      rw [List.mem_append, List.mem_singleton] at hc
      rcases hc with hc | hc
      · exact ih (u / 10) (by omega) c hc
      · rw [hc, digit_byte _ (by omega)]; omega
theorem dec_val (u : Nat) : val 0 (decDigits u) = u := by
  induction u using Nat.strongRecOn with
  | _ u ih =>
    by_cases h : u < 10
    · rw [decDigits_one h, val_cons, val_nil, digit_byte u h]; omega
    · rw [dec_big u h, val_snoc, ih (u / 10) (by omega), digit_byte _ (by omega)]; omega
theorem nDigits_le : ∀ (k u : Nat), 1 ≤ k → u < 10 ^ k → nDigits u ≤ k
  | 0, _, h, _ => by omega
  | 1, u, _, h => by rw [nDigits_small (by simpa using h)]; exact Nat.le_refl _
  | k + 2, u, _, h => by
    by_cases hu : u < 10
    · rw [nDigits_small hu]; omega
    · rw [nDigits_big hu]
      have := nDigits_le (k + 1) (u / 10) (by omega) (by rw [Nat.pow_succ] at h; omega)
      omega
theorem dec_len (u : Nat) (h : u ≤ 1099511627775) : 1 ≤ (decDigits u).length ∧ (decDigits u).length ≤ 13 := by
  rw [decDigits_length]
  exact ⟨nDigits_pos u, nDigits_le 13 u (by omega) (by omega)⟩

theorem parse_ok : ∀ (l : List UInt8) (a : Nat), (∀ c ∈ l, 48 ≤ c.toNat ∧ c.toNat ≤ 57) → val a l < 1844674407370955162 → parseUint10 a l = .ok (val a l)
  | [], a, _, _ => by rw [parseUint10, val_nil]
  | c :: r, a, hd, hv => by
    have h1 := hd c (by simp)
    have hg := val_ge r (a * 10 + (c.toNat - 48))
    rw [val_cons] at hv ⊢
    have := parse_ok r (a * 10 + (c.toNat - 48)) (fun x hx => hd x (by simp [hx])) hv
    rw [parseUint10, if_pos h1, if_neg (by omega), if_neg (by omega), this]
theorem mag_ok (u : Nat) (h : u ≤ 1099511627775) : parseMag (decDigits u) = .ok u := by
  rw [parseMag, if_neg (dec_ne u), parse_ok _ 0 (dec_dig u) (by rw [dec_val]; omega), dec_val]

/-- What is written is read again. -/
theorem atoi_itoa (n : Int) (h : numB n = true) : atoiAll (itoa n) = .ok n := by
  rw [numB_iff] at h
  unfold itoa
  by_cases hn : n < 0
  · rw [if_pos hn]
    unfold atoiAll
    have := mag_ok n.natAbs (by omega)
    simp only [show (45 : UInt8).toNat = 45 from rfl, or_true, if_true, this]
    rw [if_neg (by omega), if_neg (by omega)]
    congr 1
    omega
  · rw [if_neg hn]
    have hm := mag_ok n.toNat (by omega)
    have hd := dec_dig n.toNat
    cases hl : decDigits n.toNat with
    | nil => exact absurd hl (dec_ne _)
    | cons c r =>
      have hc := hd c (by rw [hl]; simp)
      rw [hl] at hm
      unfold atoiAll
      simp only []
      rw [if_neg (by omega), hm]
      simp only []
      rw [if_neg (by omega), if_neg (by omega), if_neg (by omega)]
      congr 1
      omega
theorem itoa_len (n : Int) (h : numB n = true) : 1 ≤ (itoa n).length ∧ (itoa n).length ≤ 14 := by
  rw [numB_iff] at h
  unfold itoa
  split
  · have := dec_len n.natAbs (by omega); simp; omega
  · have := dec_len n.toNat (by omega); omega
theorem itoa_ne (n : Int) : itoa n ≠ [] := by
  unfold itoa
  split
  · simp
  · exact dec_ne _

/-- The text of a number: empty where it is too great or too little. -/
def numText (n : Int) : List UInt8 := if numB n = true then itoa n else []
/-- The number that a text spells, if it is one's text. -/
def textNum (l : List UInt8) : Option Int :=
  match atoiAll l with
  | .ok n => if numB n = true ∧ itoa n = l then some n else .none
  | _ => .none
theorem textNum_some (l : List UInt8) (n : Int) : textNum l = some n ↔ numB n = true ∧ itoa n = l := by
  constructor
  · intro h
    unfold textNum at h
    split at h
    · split at h
      · rename_i hh; cases h; exact hh
      · cases h
    · cases h
  · rintro ⟨h, rfl⟩
    unfold textNum
    rw [atoi_itoa n h]
    simp [h]
theorem textNum_text (n : Int) (l : List UInt8) (hl : l ≠ []) (h : numText n = l) : textNum l = some n := by
  unfold numText at h
  split at h
  · rename_i hb; exact (textNum_some l n).2 ⟨hb, h⟩
  · exact absurd h.symm hl
theorem textNum_none (n : Int) (l : List UInt8) (hl : l ≠ []) (h : textNum l = .none) : numText n ≠ l := by
  intro e; rw [textNum_text n l hl e] at h; cases h

/-- What stands behind the sign, and what a text of digits spells with its sign. -/
def body (l : List UInt8) : List UInt8 := if l.head? = some 45 then l.tail else l
def sgnd (l : List UInt8) : Int := if l.head? = some 45 then -(val 0 (body l) : Int) else (val 0 (body l) : Int)
theorem dec_head (u : Nat) : (decDigits u).head? ≠ some 45 := by
  intro h
  have hm : (45 : UInt8) ∈ decDigits u := List.mem_of_mem_head? (by rw [h]; rfl)
  have := dec_dig u 45 hm
  have e : (45 : UInt8).toNat = 45 := rfl
  omega
theorem body_itoa (n : Int) : body (itoa n) = decDigits n.natAbs := by
  unfold itoa body
  by_cases h : n < 0
  · rw [if_pos h]; rfl
  · rw [if_neg h, if_neg (dec_head _), show n.toNat = n.natAbs by omega]
theorem sgnd_itoa (n : Int) : sgnd (itoa n) = n := by
  unfold sgnd
  rw [body_itoa, dec_val]
  unfold itoa
  by_cases h : n < 0
  · rw [if_pos h, List.head?_cons, if_pos rfl]; omega
  · rw [if_neg h, if_neg (dec_head _)]; omega
theorem tn_yes (l : List UInt8) (hl : l ≠ []) (h : numText (sgnd l) = l) : textNum l = some (sgnd l) := textNum_text _ l hl h
theorem tn_no (l : List UInt8) (h : numText (sgnd l) ≠ l) : textNum l = .none := by
  cases ht : textNum l with
  | none => rfl
  | some m =>
    obtain ⟨hb, rfl⟩ := (textNum_some l m).1 ht
    rw [sgnd_itoa, numText, if_pos hb] at h
    exact absurd rfl h
theorem tn_bad (l : List UInt8) (c : UInt8) (hc : c ∈ body l) (hd : ¬ (48 ≤ c.toNat ∧ c.toNat ≤ 57)) : textNum l = .none := by
  cases ht : textNum l with
  | none => rfl
  | some m =>
    obtain ⟨hb, rfl⟩ := (textNum_some l m).1 ht
    rw [body_itoa] at hc
    exact absurd (dec_dig _ c hc) hd
theorem tn_len (l : List UInt8) (h : l.length < 1 ∨ 14 < l.length) : textNum l = .none := by
  cases ht : textNum l with
  | none => rfl
  | some m =>
    obtain ⟨hb, rfl⟩ := (textNum_some l m).1 ht
    have := itoa_len m hb
    omega
theorem tn_atoi (l : List UInt8) (v : Int) (h : atoiAll l = .ok v) (hn : numText v ≠ l) : textNum l = .none := by
  cases ht : textNum l with
  | none => rfl
  | some m =>
    obtain ⟨hb, rfl⟩ := (textNum_some l m).1 ht
    rw [atoi_itoa m hb] at h
    cases h
    rw [numText, if_pos hb] at hn
    exact absurd rfl hn
theorem tn_err (l : List UInt8) (h : ∀ v, atoiAll l ≠ .ok v) : textNum l = .none := by
  cases ht : textNum l with
  | none => rfl
  | some m =>
    obtain ⟨hb, rfl⟩ := (textNum_some l m).1 ht
    exact absurd (atoi_itoa m hb) (h m)
/-- The digits ahead of a place, and one more. -/
def sgn (l : List UInt8) : Nat := if l.head? = some 45 then 1 else 0
def digs (l : List UInt8) (k : Nat) : List UInt8 := (body l).take (k - sgn l)
theorem digs_zero (l : List UInt8) : digs l 0 = [] := by simp [digs]
theorem digs_end (l : List UInt8) : digs l l.length = body l := by
  unfold digs sgn body
  split
  · exact List.take_of_length_le (by simp)
  · exact List.take_of_length_le (by omega)
theorem digs_sign (l : List UInt8) (h : l.head? = some 45) : digs l 1 = digs l 0 := by simp [digs, sgn, h]
theorem digs_succ (l : List UInt8) (k : Nat) (hk : k < l.length) (h : ¬ (k = 0 ∧ l.head? = some 45)) : digs l (k + 1) = digs l k ++ [l[k]] ∧ l[k] ∈ body l := by
  unfold digs sgn body
  by_cases hs : l.head? = some 45
  · have hk0 : k ≠ 0 := fun e => h ⟨e, hs⟩
    rw [if_pos hs, if_pos hs]
    cases l with
    | nil => simp at hk
    | cons c r =>
      obtain ⟨j, rfl⟩ : ∃ j, k = j + 1 := ⟨k - 1, by omega⟩
      have hj : j < r.length := by simpa using hk
      refine ⟨?_, ?_⟩
      · simp only [List.tail_cons, List.getElem_cons_succ]
        rw [show j + 1 + 1 - 1 = j + 1 by omega, show j + 1 - 1 = j by omega, List.take_succ_eq_append_getElem hj]
      · simp only [List.tail_cons, List.getElem_cons_succ]; exact List.getElem_mem hj
  · rw [if_neg hs, if_neg hs]
    refine ⟨?_, List.getElem_mem hk⟩
    rw [Nat.sub_zero, Nat.sub_zero, List.take_succ_eq_append_getElem hk]
theorem digs_len (l : List UInt8) (k : Nat) : (digs l k).length ≤ k := by
  unfold digs; exact Nat.le_trans (List.length_take_le _ _) (by omega)
theorem val_bound (l : List UInt8) (hd : ∀ c ∈ l, 48 ≤ c.toNat ∧ c.toNat ≤ 57) (h : l.length ≤ 14) : val 0 l < 100000000000000 := by
  have h1 := val_lt l 0 hd
  have h2 : 10 ^ l.length ≤ 10 ^ 14 := Nat.pow_le_pow_right (by omega) h
  have h3 : (10 : Nat) ^ 14 = 100000000000000 := by decide
  rw [h3] at h2
  rw [Nat.zero_add, Nat.one_mul] at h1
  exact Nat.lt_of_lt_of_le h1 h2
end Go.Proofs.Ytiijahoheajppaa
