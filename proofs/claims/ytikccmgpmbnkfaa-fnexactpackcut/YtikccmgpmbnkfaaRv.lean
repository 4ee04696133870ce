/- Values read from bytes, plainly: what a reader that takes bytes off the front reads. -/
import Derived.Test.YtikccmgpmbnkfaaWu
import Derived.Test.YtikccmgpmbnkfaaGn
namespace Go.Proofs.Ytikccmgpmbnkfaa
open Go.ChangeShapes Go.WideShapes Go.ChangeAt Go.RowKit

/-- A number of some bytes off the front; 0 where they are too few. -/
def rdN (s : Nat) (l : List UInt8) : Nat := if s ≤ l.length then getF 0 (l.take s) else 0
/-- A text off the front, and what is left. -/
def rdT (l : List UInt8) : ByteArray × List UInt8 := (⟨((l.drop 1).take (rdN 1 l)).toArray⟩, (l.drop 1).drop (rdN 1 l))
/-- A value off the front, and what is left. -/
def rdV (l : List UInt8) : Vc × List UInt8 :=
  if rdN 1 l = 1 then (⟨1, (rdN 1 (l.drop 1) : Int), ⟨#[]⟩⟩, (l.drop 1).drop 1)
  else if rdN 1 l = 2 then (⟨2, if rdN 1 (l.drop 1) = 1 then -(rdN 6 ((l.drop 1).drop 1) : Int) else (rdN 6 ((l.drop 1).drop 1) : Int), ⟨#[]⟩⟩, ((l.drop 1).drop 1).drop 6)
  else if rdN 1 l = 3 then (⟨3, 0, (rdT (l.drop 1)).1⟩, (rdT (l.drop 1)).2)
  else (⟨(rdN 1 l : Int), 0, ⟨#[]⟩⟩, l.drop 1)
/-- Some values off the front, and what is left. -/
def rdVs : Nat → List UInt8 → List Vc × List UInt8
  | 0, l => ([], l)
  | n + 1, l => ((rdV l).1 :: (rdVs n (rdV l).2).1, (rdVs n (rdV l).2).2)
theorem rdN_one (c : UInt8) (r : List UInt8) : rdN 1 (c :: r) = c.toNat := by simp [rdN, getF]
theorem rdN_lt (s : Nat) (l : List UInt8) (hs : s ≤ 6) : rdN s l < 281474976710656 := by
  unfold rdN
  split
  · have h := getF_lt (l.take s) 0
    have h1 : (l.take s).length ≤ s := by simp; omega
    have h2 : 256 ^ (l.take s).length ≤ 256 ^ 6 := Nat.pow_le_pow_right (by omega) (by omega)
    have h3 : (256 : Nat) ^ 6 = 281474976710656 := by decide
    omega
  · omega
theorem rdN_byte (l : List UInt8) : rdN 1 l < 256 := by
  cases l with
  | nil => simp [rdN]
  | cons c r => rw [rdN_one]; exact c.toNat_lt
theorem getF_numR (n : Nat) : ∀ (s a : Nat), getF a (numL n s) = a * 256 ^ s + n % 256 ^ s
  | 0, a => by simp [numL, getF, Nat.mod_one]
  | s + 1, a => by
    have ih := getF_numR n s (a * 256 + (UInt8.ofNat (n / 256 ^ s)).toNat)
    show getF (a * 256 + _) (numL n s) = _
    rw [ih, dig_nat, Nat.mod_pow_succ, Nat.pow_succ, Nat.add_mul, Nat.mul_assoc a 256, Nat.mul_comm 256 (256 ^ s), Nat.mul_comm (n / 256 ^ s % 256), Nat.add_assoc, Nat.add_comm (256 ^ s * _)]
theorem rdN_six (n : Nat) (r : List UInt8) (h : n < 281474976710656) : rdN 6 (numL n 6 ++ r) = n ∧ (numL n 6 ++ r).drop 6 = r := by
  have hl := numL_length n 6
  refine ⟨?_, by rw [List.drop_append_of_le_length (by omega), List.drop_of_length_le (by omega), List.nil_append]⟩
  unfold rdN
  rw [if_pos (by rw [List.length_append]; omega), List.take_append_of_le_length (by omega), List.take_of_length_le (by omega), getF_numR, Nat.zero_mul, Nat.zero_add, Nat.mod_eq_of_lt]
  have h3 : (256 : Nat) ^ 6 = 281474976710656 := by decide
  omega
theorem rdT_text (x : ByteArray) (r : List UInt8) (h : x.size ≤ 30) : rdT (textL x ++ r) = (x, r) := by
  have h1 : rdN 1 (textL x ++ r) = x.data.toList.length := by
    rw [textL, List.cons_append, rdN_one, UInt8.toNat_ofNat', Nat.mod_eq_of_lt (by omega)]; simp
  unfold rdT
  rw [h1]
  simp [textL]
theorem noneS {x : ByteArray} (h : x.toList.isEmpty = true) : x = ⟨#[]⟩ := by
  apply WideShapes.bytes_inj
  have := size_empty h
  have h2 : x.data.toList.length = 0 := by simpa using this
  simpa using List.length_eq_zero_iff.1 h2
/-- A right value is read as it was written. -/
theorem rdV_val (c : Vc) (r : List UInt8) (h : okB c.ty c.n c.s = true) : rdV (valL c ++ r) = (c, r) := by
  obtain ⟨ty, n, x⟩ := c
  simp only at h
  have h0 := h
  unfold okB at h0
  rcases okB_ty (c := ⟨ty, n, x⟩) h with h1 | ⟨h1, h2, h3⟩ | ⟨h1, h2, h3⟩ | ⟨h1, h2⟩
  · simp only at h1
    subst h1
    simp at h0
    obtain ⟨rfl, h0⟩ := h0
    obtain rfl := noneS (x := x) (by simpa using h0)
    simp [rdV, valL, rdN_one]
  · simp only at h1 h2 h3
    subst h1
    simp at h0
    obtain ⟨_, h0⟩ := h0
    obtain rfl := noneS (x := x) (by simpa using h0)
    obtain ⟨N, rfl⟩ : ∃ N : Nat, n = (N : Int) := ⟨n.toNat, by omega⟩
    have e : (UInt8.ofNat N).toNat = N := by rw [UInt8.toNat_ofNat', Nat.mod_eq_of_lt (by omega)]
    simp [rdV, valL, rdN_one, e]
  · simp only at h1 h2 h3
    subst h1
    simp at h0
    obtain ⟨_, h0⟩ := h0
    obtain rfl := noneS (x := x) (by simpa using h0)
    have e := rdN_six n.natAbs r (by omega)
    by_cases hn : n < 0
    · have hf : flagN (decide (n < 0)) = 1 := by simp [flagN, hn]
      have : valL ⟨2, n, ⟨#[]⟩⟩ ++ r = 2 :: 1 :: (numL n.natAbs 6 ++ r) := by simp [valL, hf]
      rw [this]
      simp only [rdV, rdN_one, List.drop_succ_cons, List.drop_zero]
      rw [e.2, e.1]
      simp
      omega
    · have hf : flagN (decide (n < 0)) = 0 := by simp [flagN, hn]
      have : valL ⟨2, n, ⟨#[]⟩⟩ ++ r = 2 :: 0 :: (numL n.natAbs 6 ++ r) := by simp [valL, hf]
      rw [this]
      simp only [rdV, rdN_one, List.drop_succ_cons, List.drop_zero]
      rw [e.2, e.1]
      simp
      omega
  · simp only at h1 h2
    subst h1
    simp at h0
    obtain ⟨rfl, _⟩ := h0
    have e := rdT_text x r h2
    have : valL ⟨3, 0, x⟩ ++ r = 3 :: (textL x ++ r) := by simp [valL]
    rw [this]
    simp only [rdV, rdN_one, List.drop_succ_cons, List.drop_zero]
    rw [e]
    simp
theorem rdVs_row : ∀ (vs : List Vc) (r : List UInt8), (∀ c ∈ vs, okB c.ty c.n c.s = true) → rdVs vs.length (vs.flatMap valL ++ r) = (vs, r)
  | [], r, _ => rfl
  | c :: vs, r, h => by
    have e : (c :: vs).flatMap valL ++ r = valL c ++ (vs.flatMap valL ++ r) := by rw [List.flatMap_cons, List.append_assoc]
    have ih := rdVs_row vs r fun x hx => h x (by simp [hx])
    show ((rdV _).1 :: _, _) = _
    rw [e, rdV_val c _ (h c (by simp))]
    simp only
    rw [ih]
/-- What is read of a right row's bytes is the row. -/
theorem rdVs_rowL (vs : List Vc) (h : okRow vs) : rdVs (rdN 1 (rowL vs)) ((rowL vs).drop 1) = (vs, []) := by
  have h1 : rdN 1 (rowL vs) = vs.length := by
    rw [rowL, rdN_one, UInt8.toNat_ofNat', Nat.mod_eq_of_lt (by have := h.1; omega)]
  have := rdVs_row vs [] h.2
  rw [List.append_nil] at this
  rw [h1]
  exact this
end Go.Proofs.Ytikccmgpmbnkfaa
