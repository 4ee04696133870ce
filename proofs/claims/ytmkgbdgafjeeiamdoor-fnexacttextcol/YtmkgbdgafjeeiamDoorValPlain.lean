/- Values are read as they were written: plainly. -/
import Derived.Test.YtmkgbdgafjeeiamDoorUnescI
namespace Go.Proofs.YtmkgbdgafjeeiamDoor
open Go.ChangeShapes Go.WideShapes Go.ChangeAt Go.RowKit

theorem quoted_eq (s : ByteArray) : quoted s = 39 :: (E s.data.toList ++ [39]) := by
  unfold quoted G E
  rw [List.take_of_length_le (by simp)]
  simp
theorem esc_first (c d : UInt8) (a b : List UInt8) (h : escB c ++ a = escB d ++ b) : c = d ∧ a = b := by
  unfold escB at h
  by_cases hc : plainB c = true
  · by_cases hd : plainB d = true
    · rw [if_pos hc, if_pos hd] at h
      simpa using h
    · rw [if_pos hc, if_neg hd] at h
      simp at h
      exact absurd (by rw [h.1]; rfl) (plain_not37 c hc)
  · by_cases hd : plainB d = true
    · rw [if_neg hc, if_pos hd] at h
      simp at h
      exact absurd (by rw [← h.1]; rfl) (plain_not37 d hd)
    · rw [if_neg hc, if_neg hd] at h
      simp at h
      have h1 := hexByteF_of c
      rw [h.1, h.2.1, hexByteF_of d] at h1
      cases h1
      exact ⟨rfl, h.2.2⟩
theorem E_inj : ∀ (a b : List UInt8), E a = E b → a = b
  | [], [], _ => rfl
  | [], d :: b, h => by
    exfalso
    have h2 : 1 ≤ (escB d).length := by unfold escB; split <;> simp
    have := congrArg List.length h
    rw [show (d :: b) = [d] ++ b from rfl, E_app, E_one, List.length_append] at this
    have h0 : (E []).length = 0 := rfl
    omega
  | c :: a, [], h => by
    exfalso
    have h2 : 1 ≤ (escB c).length := by unfold escB; split <;> simp
    have := congrArg List.length h
    rw [show (c :: a) = [c] ++ a from rfl, E_app, E_one, List.length_append] at this
    have h0 : (E []).length = 0 := rfl
    omega
  | c :: a, d :: b, h => by
    rw [show (c :: a) = [c] ++ a from rfl, show (d :: b) = [d] ++ b from rfl, E_app, E_app, E_one, E_one] at h
    obtain ⟨rfl, h2⟩ := esc_first c d _ _ h
    rw [E_inj a b h2]
theorem ba_inj {a b : List UInt8} (h : (⟨a.toArray⟩ : ByteArray) = ⟨b.toArray⟩) : a = b := by
  have := congrArg (fun x : ByteArray => x.data.toList) h
  simpa using this
theorem ba_eta (s : ByteArray) : (⟨s.data.toList.toArray⟩ : ByteArray) = s := by cases s; simp
theorem ba_of (s : ByteArray) (l : List UInt8) (h : s.data.toList = l) : s = ⟨l.toArray⟩ := by rw [← h, ba_eta]
theorem itoa_head (n : Int) : ∃ c r, Lib.itoa n = c :: r ∧ (c.toNat = 45 ∨ (48 ≤ c.toNat ∧ c.toNat ≤ 57)) := by
  cases h : Lib.itoa n with
  | nil => exact absurd h (itoa_ne n)
  | cons c r =>
    refine ⟨c, r, rfl, ?_⟩
    unfold Lib.itoa at h
    split at h
    · injection h with h1 _; left; rw [← h1]; rfl
    · right; exact dec_dig _ c (by rw [h]; simp)

/-- The text of a right value, by its kind. -/
theorem vt_cases (ty n : Int) (r : ByteArray) (h : okB ty n r = true) :
    (ty = 0 ∧ n = 0 ∧ r = noS ∧ valText ty n r = tNull) ∨ (ty = 1 ∧ n = 1 ∧ r = noS ∧ valText ty n r = tTrue) ∨ (ty = 1 ∧ n = 0 ∧ r = noS ∧ valText ty n r = tFalse) ∨
    (ty = 2 ∧ numB n = true ∧ r = noS ∧ valText ty n r = ⟨(Lib.itoa n).toArray⟩) ∨ (ty = 3 ∧ n = 0 ∧ r.size ≤ 30 ∧ valText ty n r = ⟨(quoted r).toArray⟩) := by
  have hh : ¬ okB ty n r = false := by rw [h]; simp
  rcases ok_cases ty n r h with ⟨rfl, rfl, rfl⟩ | ⟨rfl, hn, rfl⟩ | ⟨rfl, hn, rfl⟩ | ⟨rfl, rfl, hs⟩
  · exact Or.inl ⟨rfl, rfl, rfl, by rw [valText, if_neg hh, if_pos rfl]⟩
  · rcases hn with rfl | rfl
    · exact Or.inr (Or.inr (Or.inl ⟨rfl, rfl, rfl, by rw [valText, if_neg hh, if_neg (by decide), if_pos rfl]; rfl⟩))
    · exact Or.inr (Or.inl ⟨rfl, rfl, rfl, by rw [valText, if_neg hh, if_neg (by decide), if_pos rfl]; rfl⟩)
  · exact Or.inr (Or.inr (Or.inr (Or.inl ⟨rfl, hn, rfl, by rw [valText, if_neg hh, if_neg (by decide), if_neg (by decide), if_pos rfl, numText, if_pos hn]⟩)))
  · exact Or.inr (Or.inr (Or.inr (Or.inr ⟨rfl, rfl, hs, by rw [valText, if_neg hh, if_neg (by decide), if_neg (by decide), if_neg (by decide)]⟩)))
/-- The first byte of a right value's text. -/
theorem vt_first (ty n : Int) (r : ByteArray) (h : okB ty n r = true) : (valText ty n r).data.toList ≠ [] ∧
    ((valText ty n r).data.toList.head? = some 39 ↔ ty = 3) := by
  rcases vt_cases ty n r h with ⟨rfl, _, _, e⟩ | ⟨rfl, _, _, e⟩ | ⟨rfl, _, _, e⟩ | ⟨rfl, _, _, e⟩ | ⟨rfl, _, _, e⟩
  · rw [e]; decide
  · rw [e]; decide
  · rw [e]; decide
  · rw [e]
    obtain ⟨c, t, hc, hd⟩ := itoa_head n
    simp only [hc]
    refine ⟨by simp, ?_⟩
    simp only [List.head?_cons, Option.some.injEq]
    constructor
    · intro e; rw [e] at hd; exact absurd hd (by decide)
    · intro e; omega
  · rw [e, quoted_eq]; simp
/-- What a text may be: a value's, of one alone. -/
def Tv (s : ByteArray) (ty n : Int) (r : ByteArray) : Prop := okB ty n r = true ∧ valText ty n r = s
theorem tv_null (ty n : Int) (r : ByteArray) (h : Tv tNull ty n r) : ty = 0 ∧ n = 0 ∧ r = noS := by
  obtain ⟨ho, he⟩ := h
  rcases vt_cases ty n r ho with ⟨rfl, rfl, rfl, e⟩ | ⟨rfl, _, _, e⟩ | ⟨rfl, _, _, e⟩ | ⟨rfl, _, _, e⟩ | ⟨rfl, _, _, e⟩
  · exact ⟨rfl, rfl, rfl⟩
  · rw [e] at he; exact absurd (ba_inj (a := [116, 114, 117, 101]) (b := [110, 117, 108, 108]) he) (by decide)
  · rw [e] at he; exact absurd (ba_inj (a := [102, 97, 108, 115, 101]) (b := [110, 117, 108, 108]) he) (by decide)
  · rw [e] at he
    obtain ⟨c, t, hc, hd⟩ := itoa_head n
    have := ba_inj (b := [110, 117, 108, 108]) he
    rw [hc] at this
    injection this with h1 _
    rw [h1] at hd
    exact absurd hd (by decide)
  · rw [e] at he
    have := ba_inj (b := [110, 117, 108, 108]) he
    rw [quoted_eq] at this
    injection this with h1 _
    exact absurd h1 (by decide)
theorem tv_true (ty n : Int) (r : ByteArray) (h : Tv tTrue ty n r) : ty = 1 ∧ n = 1 ∧ r = noS := by
  obtain ⟨ho, he⟩ := h
  rcases vt_cases ty n r ho with ⟨rfl, rfl, rfl, e⟩ | ⟨rfl, rfl, rfl, e⟩ | ⟨rfl, _, _, e⟩ | ⟨rfl, _, _, e⟩ | ⟨rfl, _, _, e⟩
  · rw [e] at he; exact absurd (ba_inj (a := [110, 117, 108, 108]) (b := [116, 114, 117, 101]) he) (by decide)
  · exact ⟨rfl, rfl, rfl⟩
  · rw [e] at he; exact absurd (ba_inj (a := [102, 97, 108, 115, 101]) (b := [116, 114, 117, 101]) he) (by decide)
  · rw [e] at he
    obtain ⟨c, t, hc, hd⟩ := itoa_head n
    have := ba_inj (b := [116, 114, 117, 101]) he
    rw [hc] at this
    injection this with h1 _
    rw [h1] at hd
    exact absurd hd (by decide)
  · rw [e] at he
    have := ba_inj (b := [116, 114, 117, 101]) he
    rw [quoted_eq] at this
    injection this with h1 _
    exact absurd h1 (by decide)
theorem tv_false (ty n : Int) (r : ByteArray) (h : Tv tFalse ty n r) : ty = 1 ∧ n = 0 ∧ r = noS := by
  obtain ⟨ho, he⟩ := h
  rcases vt_cases ty n r ho with ⟨rfl, rfl, rfl, e⟩ | ⟨rfl, rfl, rfl, e⟩ | ⟨rfl, rfl, rfl, e⟩ | ⟨rfl, _, _, e⟩ | ⟨rfl, _, _, e⟩
  · rw [e] at he; exact absurd (ba_inj (a := [110, 117, 108, 108]) (b := [102, 97, 108, 115, 101]) he) (by decide)
  · rw [e] at he; exact absurd (ba_inj (a := [116, 114, 117, 101]) (b := [102, 97, 108, 115, 101]) he) (by decide)
  · exact ⟨rfl, rfl, rfl⟩
  · rw [e] at he
    obtain ⟨c, t, hc, hd⟩ := itoa_head n
    have := ba_inj (b := [102, 97, 108, 115, 101]) he
    rw [hc] at this
    injection this with h1 _
    rw [h1] at hd
    exact absurd hd (by decide)
  · rw [e] at he
    have := ba_inj (b := [102, 97, 108, 115, 101]) he
    rw [quoted_eq] at this
    injection this with h1 _
    exact absurd h1 (by decide)
theorem tv_quote (s : ByteArray) (hq : s.data.toList.head? = some 39) (ty n : Int) (r : ByteArray) (h : Tv s ty n r) : ty = 3 ∧ n = 0 ∧ r.size ≤ 30 ∧ s.data.toList = 39 :: (E r.data.toList ++ [39]) := by
  obtain ⟨ho, rfl⟩ := h
  have h3 := (vt_first ty n r ho).2.1 hq
  subst h3
  rcases vt_cases 3 n r ho with ⟨h, _⟩ | ⟨h, _⟩ | ⟨h, _⟩ | ⟨h, _⟩ | ⟨_, rfl, hs, e⟩
  · exact absurd h (by decide)
  · exact absurd h (by decide)
  · exact absurd h (by decide)
  · exact absurd h (by decide)
  · exact ⟨rfl, rfl, hs, by rw [e, ← quoted_eq]⟩
theorem tv_num (s : ByteArray) (hq : s.data.toList.head? ≠ some 39) (h0 : s ≠ tNull) (h1 : s ≠ tTrue) (h2 : s ≠ tFalse) (ty n : Int) (r : ByteArray) (h : Tv s ty n r) :
    ty = 2 ∧ r = noS ∧ textNum s.data.toList = some n := by
  obtain ⟨ho, rfl⟩ := h
  rcases vt_cases ty n r ho with ⟨rfl, rfl, rfl, e⟩ | ⟨rfl, rfl, rfl, e⟩ | ⟨rfl, rfl, rfl, e⟩ | ⟨rfl, hn, rfl, e⟩ | ⟨rfl, _, _, e⟩
  · exact absurd e h0
  · exact absurd e h1
  · exact absurd e h2
  · exact ⟨rfl, rfl, by rw [e]; exact (textNum_some _ n).2 ⟨hn, rfl⟩⟩
  · exact absurd ((vt_first 3 n r ho).2.2 rfl) hq
theorem tv_nonempty (s : ByteArray) (ty n : Int) (r : ByteArray) (h : Tv s ty n r) : s.data.toList ≠ [] := by
  obtain ⟨ho, rfl⟩ := h
  exact (vt_first ty n r ho).1
/-- One text, one value. -/
theorem tv_unique (s : ByteArray) (ty n : Int) (r : ByteArray) (ty' n' : Int) (r' : ByteArray) (h : Tv s ty n r) (h' : Tv s ty' n' r') : ty = ty' ∧ n = n' ∧ r = r' := by
  by_cases hq : s.data.toList.head? = some 39
  · obtain ⟨rfl, rfl, _, e⟩ := tv_quote s hq ty n r h
    obtain ⟨rfl, rfl, _, e'⟩ := tv_quote s hq ty' n' r' h'
    rw [e] at e'
    injection e' with _ e2
    have := E_inj _ _ (List.append_cancel_right e2)
    exact ⟨rfl, rfl, by rw [← ba_eta r, ← ba_eta r', this]⟩
  · by_cases h0 : s = tNull
    · subst h0
      obtain ⟨rfl, rfl, rfl⟩ := tv_null _ _ _ h
      obtain ⟨rfl, rfl, rfl⟩ := tv_null _ _ _ h'
      exact ⟨rfl, rfl, rfl⟩
    by_cases h1 : s = tTrue
    · subst h1
      obtain ⟨rfl, rfl, rfl⟩ := tv_true _ _ _ h
      obtain ⟨rfl, rfl, rfl⟩ := tv_true _ _ _ h'
      exact ⟨rfl, rfl, rfl⟩
    by_cases h2 : s = tFalse
    · subst h2
      obtain ⟨rfl, rfl, rfl⟩ := tv_false _ _ _ h
      obtain ⟨rfl, rfl, rfl⟩ := tv_false _ _ _ h'
      exact ⟨rfl, rfl, rfl⟩
    · obtain ⟨rfl, rfl, e⟩ := tv_num s hq h0 h1 h2 _ _ _ h
      obtain ⟨rfl, rfl, e'⟩ := tv_num s hq h0 h1 h2 _ _ _ h'
      rw [e] at e'
      cases e'
      exact ⟨rfl, rfl, rfl⟩

/-- What TextVal may answer at a text: its value and true, or nothing and false where it has none. -/
def TvR (s : ByteArray) (ty n : Int) (r : ByteArray) (b : Bool) : Prop :=
  (b = true ∧ Tv s ty n r) ∨ (b = false ∧ ty = 0 ∧ n = 0 ∧ r = noS ∧ ∀ ty n r, ¬ Tv s ty n r)
theorem TvR.unique {s : ByteArray} {ty n : Int} {r : ByteArray} {b : Bool} {ty' n' : Int} {r' : ByteArray} {b' : Bool} (h : TvR s ty n r b) (h' : TvR s ty' n' r' b') : ty = ty' ∧ n = n' ∧ r = r' ∧ b = b' := by
  rcases h with ⟨rfl, h⟩ | ⟨rfl, rfl, rfl, rfl, h⟩
  · rcases h' with ⟨rfl, h'⟩ | ⟨rfl, rfl, rfl, rfl, h'⟩
    · obtain ⟨a, b, c⟩ := tv_unique s _ _ _ _ _ _ h h'
      exact ⟨a, b, c, rfl⟩
    · exact absurd h (h' _ _ _)
  · rcases h' with ⟨rfl, h'⟩ | ⟨rfl, rfl, rfl, rfl, h'⟩
    · exact absurd h' (h _ _ _)
    · exact ⟨rfl, rfl, rfl, rfl⟩
/-- A candidate that is the value wherever there is one, held against the text. -/
theorem TvR.yes {s : ByteArray} {ty n : Int} {r : ByteArray} (he : valText ty n r = s) (hs : s.data.toList ≠ []) : TvR s ty n r true := by
  refine Or.inl ⟨rfl, ?_, he⟩
  cases h : okB ty n r
  · rw [valText, if_pos h] at he
    rw [← he] at hs
    exact absurd rfl hs
  · rfl
theorem TvR.no {s : ByteArray} {ty n : Int} {r : ByteArray} (hc : ∀ ty' n' r', Tv s ty' n' r' → ty' = ty ∧ n' = n ∧ r' = r) (he : valText ty n r ≠ s) : TvR s 0 0 noS false := by
  refine Or.inr ⟨rfl, rfl, rfl, rfl, fun ty' n' r' h => ?_⟩
  obtain ⟨rfl, rfl, rfl⟩ := hc _ _ _ h
  exact he h.2
theorem TvR.none {s : ByteArray} (hc : ∀ ty n r, ¬ Tv s ty n r) : TvR s 0 0 noS false := Or.inr ⟨rfl, rfl, rfl, rfl, hc⟩
end Go.Proofs.YtmkgbdgafjeeiamDoor
