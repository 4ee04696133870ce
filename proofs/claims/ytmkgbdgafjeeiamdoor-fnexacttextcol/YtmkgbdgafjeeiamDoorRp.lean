/- The text of a column: its words, and that they are read again. -/
import Derived.Test.YtmkgbdgafjeeiamDoorWr
import Derived.Test.YtmkgbdgafjeeiamDoorValPlain
import Derived.Test.YtmkgbdgafjeeiamDoorColOkS
namespace Go.Proofs.YtmkgbdgafjeeiamDoor
open Go.ChangeShapes Go.WideShapes Go.ChangeAt Go.RowKit

/-- Signs of a word alone. -/
def solid (l : List UInt8) : Prop := ∀ b ∈ l, 33 ≤ b.toNat ∧ b.toNat ≤ 126
theorem solid_ne {b : UInt8} (h : 33 ≤ b.toNat ∧ b.toNat ≤ 126) : b ≠ 32 ∧ b ≠ 10 ∧ b.toNat < 128 := by
  refine ⟨fun e => ?_, fun e => ?_, by omega⟩
  · subst e; exact absurd h.1 (by decide)
  · subst e; exact absurd h.1 (by decide)
theorem wordF_word : ∀ (x : List UInt8), solid x → ∀ l, wordF (x ++ 32 :: l) = some (x, l)
  | [], _, l => by simp [wordF]
  | b :: x, h, l => by
    obtain ⟨h1, h2, h3⟩ := solid_ne (h b (by simp))
    rw [List.cons_append, wordF, if_neg h1, if_neg h2, if_pos h3, wordF_word x (fun c hc => h c (by simp [hc])) l]; rfl
theorem wordF_last : ∀ (x : List UInt8), solid x → wordF x = some (x, [])
  | [], _ => rfl
  | b :: x, h => by
    obtain ⟨h1, h2, h3⟩ := solid_ne (h b (by simp))
    rw [wordF, if_neg h1, if_neg h2, if_pos h3, wordF_last x (fun c hc => h c (by simp [hc]))]; rfl
theorem cutL_word : ∀ (x : List UInt8), solid x → ∀ l cur, cutL 32 (x ++ 32 :: l) cur = (cur ++ x) :: cutL 32 l []
  | [], _, l, cur => by simp [cutL]
  | b :: x, h, l, cur => by
    obtain ⟨h1, _, _⟩ := solid_ne (h b (by simp))
    rw [List.cons_append, cutL, if_neg h1, cutL_word x (fun c hc => h c (by simp [hc])) l]; simp
theorem cutL_last : ∀ (x : List UInt8), solid x → ∀ cur, cutL 32 x cur = [cur ++ x]
  | [], _, cur => by simp [cutL]
  | b :: x, h, cur => by
    obtain ⟨h1, _, _⟩ := solid_ne (h b (by simp))
    rw [cutL, if_neg h1, cutL_last x (fun c hc => h c (by simp [hc]))]; simp
theorem hex_solid (i : Nat) (h : i < 16) : 33 ≤ (hexB i).toNat ∧ (hexB i).toNat ≤ 126 := by
  have : ∀ i : Fin 16, 33 ≤ (hexB i.val).toNat ∧ (hexB i.val).toNat ≤ 126 := by decide +kernel
  exact this ⟨i, h⟩
theorem esc_solid (c : UInt8) : solid (escB c) := by
  intro b hb
  unfold escB at hb
  split at hb
  · rename_i h
    simp only [List.mem_singleton] at hb
    subst hb
    simp only [plainB, Bool.and_eq_true, decide_eq_true_eq] at h
    omega
  · have hc := c.toNat_lt
    simp only [List.mem_cons, List.not_mem_nil, or_false] at hb
    rcases hb with rfl | rfl | rfl
    · decide
    · exact hex_solid _ (by omega)
    · exact hex_solid _ (by omega)
theorem vt_solid (ty n : Int) (r : ByteArray) (h : okB ty n r = true) : solid (valText ty n r).data.toList := by
  rcases vt_cases ty n r h with ⟨_, _, _, e⟩ | ⟨_, _, _, e⟩ | ⟨_, _, _, e⟩ | ⟨_, _, _, e⟩ | ⟨_, _, _, e⟩ <;> rw [e]
  · intro b hb; revert b; decide
  · intro b hb; revert b; decide
  · intro b hb; revert b; decide
  · intro b hb
    simp only [Lib.itoa] at hb
    split at hb
    · simp only [List.mem_cons] at hb
      rcases hb with rfl | hb
      · decide
      · have := dec_dig _ b hb; omega
    · have := dec_dig _ b hb; omega
  · intro b hb
    simp only [quoted_eq] at hb
    simp only [List.mem_cons, List.mem_append, List.not_mem_nil, or_false] at hb
    rcases hb with rfl | hb | rfl
    · decide
    · unfold E at hb
      obtain ⟨c, _, hc⟩ := List.mem_flatMap.1 hb
      exact esc_solid c b hc
    · decide

/-- The word of a type. -/
def tyT (ty : Int) : ByteArray := if ty = 1 then ⟨#[98, 111, 111, 108]⟩ else if ty = 2 then ⟨#[105, 110, 116]⟩ else if ty = 3 then ⟨#[116, 101, 120, 116]⟩ else ⟨#[]⟩
/-- A type is read. -/
def PType (l : List UInt8) (ty : Int) (l' : List UInt8) : Prop := (ty = 1 ∨ ty = 2 ∨ ty = 3) ∧ wordF l = some ((tyT ty).data.toList, l')
abbrev notT : List UInt8 := [110, 111, 116]
/-- The words of a column. -/
def Cl.words (c : Cl) : List (List UInt8) := c.name.data.toList :: (tyT c.ty).data.toList :: ((if c.nt = true then [notT] else []) ++ (if c.has = true then [61 :: (valText c.dt c.dn c.ds).data.toList] else []))
/-- Words with a blank between. -/
def joinL : List (List UInt8) → List UInt8
  | [] => []
  | [x] => x
  | x :: y :: r => x ++ 32 :: joinL (y :: r)
/-- The text of a column. -/
def Cl.text (c : Cl) : List UInt8 := if c.ok = true then joinL c.words else []
theorem cut_join : ∀ (ws : List (List UInt8)), ws ≠ [] → (∀ x ∈ ws, solid x) → cutL 32 (joinL ws) [] = ws
  | [], h, _ => absurd rfl h
  | [x], _, h => by rw [joinL, cutL_last x (h x (by simp))]; rfl
  | x :: y :: r, _, h => by
    rw [joinL, cutL_word x (h x (by simp)), cut_join (y :: r) (by simp) (fun z hz => h z (by simp [hz]))]; rfl
theorem ok_parts {c : Cl} (h : c.ok = true) : wordB c.name = true ∧ (c.ty = 1 ∨ c.ty = 2 ∨ c.ty = 3) ∧ (c.has = false → c.dt = 0 ∧ c.dn = 0 ∧ c.ds = noS) ∧ (c.has = true → okB c.dt c.dn c.ds = true) := by
  simp only [Cl.ok, Bool.and_eq_true, decide_eq_true_eq] at h
  obtain ⟨⟨h1, h2, h3⟩, h4⟩ := h
  refine ⟨h1, by omega, fun hf => ?_, fun hf => ?_⟩
  · rw [if_pos hf] at h4
    simp only [Cl.null, Bool.and_eq_true, beq_iff_eq] at h4
    refine ⟨h4.1, h4.2.1, ?_⟩
    have := h4.2.2
    simp only [ByteArray.toList_eq, List.isEmpty_iff] at this
    exact bytes_inj (by simpa using this)
  · rw [if_neg (by simp [hf])] at h4
    simp only [Bool.and_eq_true] at h4
    exact h4.1.1
theorem name_solid {s : ByteArray} (h : wordB s = true) : solid s.data.toList := fun b hb => by
  simp only [wordB, Bool.and_eq_true, List.all_eq_true] at h
  have := h.1 b hb
  simp only [lowB, Bool.and_eq_true, decide_eq_true_eq] at this
  omega
theorem ty_solid {ty : Int} (h : ty = 1 ∨ ty = 2 ∨ ty = 3) : solid (tyT ty).data.toList := by
  rcases h with rfl | rfl | rfl <;> (intro b hb; revert b; decide)
theorem not_solid : solid notT := by intro b hb; revert b; decide
theorem def_solid {c : Cl} (h : okB c.dt c.dn c.ds = true) : solid (61 :: (valText c.dt c.dn c.ds).data.toList) := fun b hb => by
  rcases List.mem_cons.1 hb with rfl | hb
  · decide
  · exact vt_solid _ _ _ h b hb
theorem words_solid {c : Cl} (h : c.ok = true) : ∀ x ∈ c.words, solid x := fun x hx => by
  obtain ⟨h1, h2, _, h4⟩ := ok_parts h
  simp only [Cl.words, List.mem_cons, List.mem_append] at hx
  rcases hx with rfl | rfl | hx | hx
  · exact name_solid h1
  · exact ty_solid h2
  · split at hx
    · simp only [List.mem_singleton] at hx; subst hx; exact not_solid
    · simp at hx
  · split at hx
    · rename_i hh
      simp only [List.mem_singleton] at hx; subst hx; exact def_solid (h4 hh)
    · simp at hx
/-- The default of a column is read, a word having been read. -/
def PHas (endw w3 l4 : List UInt8) (c : Cl) (l' : List UInt8) : Prop :=
  (c.has = true ∧ ∃ d, w3 = 61 :: d ∧ Tv ⟨d.toArray⟩ c.dt c.dn c.ds ∧ wordF l4 = some (endw, l')) ∨ (c.has = false ∧ c.dt = 0 ∧ c.dn = 0 ∧ c.ds = noS ∧ w3.head? ≠ some 61 ∧ w3 = endw ∧ l' = l4)
/-- What comes behind the type is read. -/
def PTail (endw l2 : List UInt8) (c : Cl) (l' : List UInt8) : Prop := ∃ l4 w3,
  ((c.nt = true ∧ ∃ l3, wordF l2 = some (notT, l3) ∧ wordF l3 = some (w3, l4)) ∨ (c.nt = false ∧ w3 ≠ notT ∧ wordF l2 = some (w3, l4))) ∧ PHas endw w3 l4 c l'
/-- A column is read, up to a word. -/
def PCol (endw l : List UInt8) (c : Cl) (l' : List UInt8) : Prop := ∃ l1 l2, wordF l = some (c.name.data.toList, l1) ∧ PType l1 c.ty l2 ∧ PTail endw l2 c l'
theorem tyT_inj {a b : Int} (ha : a = 1 ∨ a = 2 ∨ a = 3) (hb : b = 1 ∨ b = 2 ∨ b = 3) (h : (tyT a).data.toList = (tyT b).data.toList) : a = b := by
  rcases ha with rfl | rfl | rfl <;> rcases hb with rfl | rfl | rfl <;> first | rfl | exact absurd h (by decide)
theorem PCol.inv {ew l l' l1 l2 : List UInt8} {c : Cl} {nm : ByteArray} {ty : Int} (h : PCol ew l c l') (h1 : wordF l = some (nm.data.toList, l1)) (h2 : PType l1 ty l2) : c.name = nm ∧ c.ty = ty ∧ PTail ew l2 c l' := by
  obtain ⟨m1, m2, g1, g2, g3⟩ := h
  rw [h1] at g1
  simp only [Option.some.injEq, Prod.mk.injEq] at g1
  obtain ⟨e1, rfl⟩ := g1
  obtain ⟨a1, a2⟩ := g2
  obtain ⟨b1, b2⟩ := h2
  rw [b2] at a2
  simp only [Option.some.injEq, Prod.mk.injEq] at a2
  obtain ⟨e2, rfl⟩ := a2
  exact ⟨(bytes_inj e1).symm, (tyT_inj b1 a1 e2).symm, g3⟩
theorem PTail.no1 {ew l2 l' : List UInt8} {c : Cl} (h : PTail ew l2 c l') (h3 : wordF l2 = none) : False := by
  obtain ⟨l4, w3, ⟨_, l3, g, _⟩ | ⟨_, _, g⟩, _⟩ := h
  · rw [h3] at g; cases g
  · rw [h3] at g; cases g
theorem PTail.yes {ew l2 l3 l' : List UInt8} {c : Cl} (h : PTail ew l2 c l') (h3 : wordF l2 = some (notT, l3)) : c.nt = true ∧ ∃ w3 l4, wordF l3 = some (w3, l4) ∧ PHas ew w3 l4 c l' := by
  obtain ⟨l4, w3, ⟨e, m3, g, g'⟩ | ⟨_, hn, g⟩, hh⟩ := h
  · rw [h3] at g
    simp only [Option.some.injEq, Prod.mk.injEq, true_and] at g
    subst g
    exact ⟨e, _, _, g', hh⟩
  · rw [h3] at g
    simp only [Option.some.injEq, Prod.mk.injEq] at g
    exact absurd g.1.symm hn
theorem PTail.no {ew l2 l3 l' x : List UInt8} {c : Cl} (h : PTail ew l2 c l') (h3 : wordF l2 = some (x, l3)) (hx : x ≠ notT) : c.nt = false ∧ PHas ew x l3 c l' := by
  obtain ⟨l4, w3, ⟨e, m3, g, g'⟩ | ⟨e, hn, g⟩, hh⟩ := h
  · rw [h3] at g
    simp only [Option.some.injEq, Prod.mk.injEq] at g
    exact absurd g.1 hx
  · rw [h3] at g
    simp only [Option.some.injEq, Prod.mk.injEq] at g
    obtain ⟨rfl, rfl⟩ := g
    exact ⟨e, hh⟩
theorem PHas.yes {ew d l4 l' : List UInt8} {c : Cl} (h : PHas ew (61 :: d) l4 c l') : c.has = true ∧ Tv ⟨d.toArray⟩ c.dt c.dn c.ds ∧ wordF l4 = some (ew, l') := by
  rcases h with ⟨e, d', e', g1, g2⟩ | ⟨_, _, _, _, g, _⟩
  · simp only [List.cons.injEq, true_and] at e'
    subst e'
    exact ⟨e, g1, g2⟩
  · exact absurd rfl g
theorem PHas.no {ew x l4 l' : List UInt8} {c : Cl} (h : PHas ew x l4 c l') (hx : x.head? ≠ some 61) : c.has = false ∧ c.dt = 0 ∧ c.dn = 0 ∧ c.ds = noS ∧ x = ew ∧ l' = l4 := by
  rcases h with ⟨e, d', e', g1, g2⟩ | ⟨e, e1, e2, e3, _, e4, e5⟩
  · subst e'; exact absurd rfl hx
  · exact ⟨e, e1, e2, e3, e4, e5⟩
theorem PHas.unique {ew x l4 l1 l2 : List UInt8} {c d : Cl} (h : PHas ew x l4 c l1) (k : PHas ew x l4 d l2) : c.has = d.has ∧ c.dt = d.dt ∧ c.dn = d.dn ∧ c.ds = d.ds := by
  rcases k with ⟨e, y, rfl, tv, _⟩ | ⟨e, e1, e2, e3, hx, _, _⟩
  · obtain ⟨f, tv', _⟩ := h.yes
    obtain ⟨t1, t2, t3⟩ := tv_unique _ _ _ _ _ _ _ tv' tv
    exact ⟨by rw [e, f], t1, t2, t3⟩
  · obtain ⟨f, f1, f2, f3, _⟩ := h.no hx
    exact ⟨by rw [e, f], by rw [e1, f1], by rw [e2, f2], by rw [e3, f3]⟩
theorem PCol.unique {ew l l1 l2 : List UInt8} {c d : Cl} (h : PCol ew l c l1) (k : PCol ew l d l2) : c = d := by
  obtain ⟨m1, m2, g1, g2, l4, w3, g3, g4⟩ := k
  obtain ⟨e1, e2, ht⟩ := h.inv g1 g2
  obtain ⟨e3, hh⟩ : c.nt = d.nt ∧ PHas ew w3 l4 c l1 := by
    rcases g3 with ⟨e, l3, a, b⟩ | ⟨e, hn, a⟩
    · obtain ⟨f, w3', l4', b', hh⟩ := ht.yes a
      rw [b] at b'
      simp only [Option.some.injEq, Prod.mk.injEq] at b'
      obtain ⟨rfl, rfl⟩ := b'
      exact ⟨by rw [e, f], hh⟩
    · obtain ⟨f, hh⟩ := ht.no a hn
      exact ⟨by rw [e, f], hh⟩
  obtain ⟨e4, e5, e6, e7⟩ := hh.unique g4
  cases c
  cases d
  simp_all
theorem PCol.some {ew l1 : List UInt8} {c : Cl} (h : PCol ew [] c l1) : False := by
  obtain ⟨m1, m2, g1, g2, _⟩ := h
  simp only [wordF, Option.some.injEq, Prod.mk.injEq] at g1
  obtain ⟨_, rfl⟩ := g1
  obtain ⟨h1, h2⟩ := g2
  simp only [wordF, Option.some.injEq, Prod.mk.injEq] at h2
  rcases h1 with h | h | h <;> rw [h] at h2 <;> exact absurd h2.1 (by decide)
theorem tv_self {ty n : Int} {r : ByteArray} (h : okB ty n r = true) : Tv ⟨(valText ty n r).data.toList.toArray⟩ ty n r := ⟨h, by rw [ba_eta]⟩
/-- What was written is read. -/
theorem col_read {c : Cl} (h : c.ok = true) : PCol [] (joinL c.words) c [] := by
  obtain ⟨h1, h2, h3, h4⟩ := ok_parts h
  have hn := name_solid h1
  have ht := ty_solid h2
  cases hnt : c.nt <;> cases hh : c.has
  · obtain ⟨e1, e2, e3⟩ := h3 hh
    have e : joinL c.words = c.name.data.toList ++ 32 :: (tyT c.ty).data.toList := by simp [Cl.words, hnt, hh, joinL]
    rw [e]
    exact ⟨_, [], wordF_word _ hn _, ⟨h2, wordF_last _ ht⟩, [], [], Or.inr ⟨hnt, by decide, rfl⟩, Or.inr ⟨hh, e1, e2, e3, by decide, rfl, rfl⟩⟩
  · have hd := def_solid (h4 hh)
    have e : joinL c.words = c.name.data.toList ++ 32 :: ((tyT c.ty).data.toList ++ 32 :: (61 :: (valText c.dt c.dn c.ds).data.toList)) := by simp [Cl.words, hnt, hh, joinL]
    rw [e]
    exact ⟨_, _, wordF_word _ hn _, ⟨h2, wordF_word _ ht _⟩, [], _, Or.inr ⟨hnt, by simp, wordF_last _ hd⟩, Or.inl ⟨hh, _, rfl, tv_self (h4 hh), rfl⟩⟩
  · obtain ⟨e1, e2, e3⟩ := h3 hh
    have e : joinL c.words = c.name.data.toList ++ 32 :: ((tyT c.ty).data.toList ++ 32 :: notT) := by simp [Cl.words, hnt, hh, joinL]
    rw [e]
    exact ⟨_, _, wordF_word _ hn _, ⟨h2, wordF_word _ ht _⟩, [], [], Or.inl ⟨hnt, _, wordF_last _ not_solid, rfl⟩, Or.inr ⟨hh, e1, e2, e3, by decide, rfl, rfl⟩⟩
  · have hd := def_solid (h4 hh)
    have e : joinL c.words = c.name.data.toList ++ 32 :: ((tyT c.ty).data.toList ++ 32 :: (notT ++ 32 :: (61 :: (valText c.dt c.dn c.ds).data.toList))) := by simp [Cl.words, hnt, hh, joinL]
    rw [e]
    exact ⟨_, _, wordF_word _ hn _, ⟨h2, wordF_word _ ht _⟩, [], _, Or.inl ⟨hnt, _, wordF_word _ not_solid _, wordF_last _ hd⟩, Or.inl ⟨hh, _, rfl, tv_self (h4 hh), rfl⟩⟩
end Go.Proofs.YtmkgbdgafjeeiamDoor
