/- Columns, changes and statements read from bytes, plainly. Batches read from bytes, plainly. The landed reader of bytes: values, ReadVals. The landed reader of bytes: columns, texts, changes. -/
import Derived.Test.YtiijahoheajppaaGreatRv
import Derived.Test.YtiijahoheajppaaGreatWx
import Derived.Test.YtiijahoheajppaaGreatZa
import Derived.Test.YtiijahoheajppaaGreatPkf
namespace Go.Proofs.YtiijahoheajppaaGreat
open Go.ChangeShapes Go.WideShapes Go.ChangeAt Go.RowKit

abbrev noS : ByteArray := ⟨#[]⟩
theorem rdT_size (l : List UInt8) : (rdT l).1.size ≤ 255 := by
  have h1 := rdN_byte l
  show ((l.drop 1).take (rdN 1 l)).toArray.size ≤ 255
  simp; omega
theorem rdV_fit (l : List UInt8) : (rdV l).1.s.size ≤ 255 := by
  unfold rdV
  split
  · exact Nat.zero_le _
  · split
    · exact Nat.zero_le _
    · split
      · exact rdT_size _
      · exact Nat.zero_le _
theorem rdVs_fit : ∀ n l, ∀ c ∈ (rdVs n l).1, c.s.size ≤ 255
  | 0, _, c, h => by simp [rdVs] at h
  | n + 1, l, c, h => by
    simp [rdVs] at h
    rcases h with rfl | h
    · exact rdV_fit l
    · exact rdVs_fit n _ c h
theorem rdVs_len : ∀ n l, (rdVs n l).1.length = n
  | 0, _ => rfl
  | n + 1, l => by simp [rdVs, rdVs_len n]
/-- A column off the front, and what is left. -/
def rdC (l : List UInt8) : Cl × List UInt8 :=
  (⟨(rdT l).1, (rdN 1 (rdT l).2 : Int), decide (rdN 1 ((rdT l).2.drop 1) = 1), decide (rdN 1 (((rdT l).2.drop 1).drop 1) = 1), (rdV ((((rdT l).2.drop 1).drop 1).drop 1)).1.ty, (rdV ((((rdT l).2.drop 1).drop 1).drop 1)).1.n, (rdV ((((rdT l).2.drop 1).drop 1).drop 1)).1.s⟩, (rdV ((((rdT l).2.drop 1).drop 1).drop 1)).2)
def rdCs : Nat → List UInt8 → List Cl × List UInt8
  | 0, l => ([], l)
  | n + 1, l => ((rdC l).1 :: (rdCs n (rdC l).2).1, (rdCs n (rdC l).2).2)
def rdTs : Nat → List UInt8 → List ByteArray × List UInt8
  | 0, l => ([], l)
  | n + 1, l => ((rdT l).1 :: (rdTs n (rdT l).2).1, (rdTs n (rdT l).2).2)
theorem rdCs_len : ∀ n l, (rdCs n l).1.length = n
  | 0, _ => rfl
  | n + 1, l => by simp [rdCs, rdCs_len n]
theorem rdTs_len : ∀ n l, (rdTs n l).1.length = n
  | 0, _ => rfl
  | n + 1, l => by simp [rdTs, rdTs_len n]
theorem rdC_fit (l : List UInt8) : (rdC l).1.name.size ≤ 255 ∧ (rdC l).1.ds.size ≤ 255 := ⟨rdT_size l, rdV_fit _⟩
theorem rdCs_fit : ∀ n l, ∀ c ∈ (rdCs n l).1, c.name.size ≤ 255 ∧ c.ds.size ≤ 255
  | 0, _, c, h => by simp [rdCs] at h
  | n + 1, l, c, h => by
    simp [rdCs] at h
    rcases h with rfl | h
    · exact rdC_fit l
    · exact rdCs_fit n _ c h
theorem rdTs_fit : ∀ n l, ∀ s ∈ (rdTs n l).1, s.size ≤ 255
  | 0, _, s, h => by simp [rdTs] at h
  | n + 1, l, s, h => by
    simp [rdTs] at h
    rcases h with rfl | h
    · exact rdT_size l
    · exact rdTs_fit n _ s h
/-- A column as it may be written: small, its type in one byte. -/
def Cl.tame (c : Cl) : Prop := c.small ∧ c.ty ≤ 255
theorem rdC_col (c : Cl) (r : List UInt8) (h : c.tame) : rdC (colL c ++ r) = (c, r) := by
  obtain ⟨⟨h1, h2, h3⟩, h4⟩ := h
  obtain ⟨nm, ty, nt, has, dt, dn, ds⟩ := c
  simp only at h1 h2 h3 h4
  obtain ⟨N, rfl⟩ : ∃ N : Nat, ty = (N : Int) := ⟨ty.toNat, by omega⟩
  have e0 : colL ⟨nm, (N : Int), nt, has, dt, dn, ds⟩ ++ r = textL nm ++ (UInt8.ofNat N :: flagN nt :: flagN has :: (valL ⟨dt, dn, ds⟩ ++ r)) := by simp [colL]
  have e1 := rdT_text nm (UInt8.ofNat N :: flagN nt :: flagN has :: (valL ⟨dt, dn, ds⟩ ++ r)) h1
  have e2 : (UInt8.ofNat N).toNat = N := by rw [UInt8.toNat_ofNat', Nat.mod_eq_of_lt (by omega)]
  have e3 : ∀ b : Bool, decide ((flagN b).toNat = 1) = b := fun b => by cases b <;> rfl
  have e4 := rdV_val ⟨dt, dn, ds⟩ r h3
  unfold rdC
  rw [e0, e1]
  simp only [rdN_one, List.drop_succ_cons, List.drop_zero, e2, e3, e4]
theorem rdCs_flat : ∀ (cs : List Cl) (r : List UInt8), (∀ c ∈ cs, c.tame) → rdCs cs.length (cs.flatMap colL ++ r) = (cs, r)
  | [], r, _ => rfl
  | c :: cs, r, h => by
    have e : (c :: cs).flatMap colL ++ r = colL c ++ (cs.flatMap colL ++ r) := by rw [List.flatMap_cons, List.append_assoc]
    have ih := rdCs_flat cs r fun x hx => h x (by simp [hx])
    show ((rdC _).1 :: _, _) = _
    rw [e, rdC_col c _ (h c (by simp))]
    simp only
    rw [ih]
theorem rdTs_flat : ∀ (ks : List ByteArray) (r : List UInt8), (∀ s ∈ ks, s.size ≤ 30) → rdTs ks.length (ks.flatMap textL ++ r) = (ks, r)
  | [], r, _ => rfl
  | s :: ks, r, h => by
    have e : (s :: ks).flatMap textL ++ r = textL s ++ (ks.flatMap textL ++ r) := by rw [List.flatMap_cons, List.append_assoc]
    have ih := rdTs_flat ks r fun x hx => h x (by simp [hx])
    show ((rdT _).1 :: _, _) = _
    rw [e, rdT_text s _ (h s (by simp))]
    simp only
    rw [ih]
theorem rdVs_front (vs : List Vc) (r : List UInt8) (h : okRow vs) : rdVs (rdN 1 (rowL vs ++ r)) ((rowL vs ++ r).drop 1) = (vs, r) := by
  have h1 : rdN 1 (rowL vs ++ r) = vs.length := by
    rw [rowL, List.cons_append, rdN_one, UInt8.toNat_ofNat', Nat.mod_eq_of_lt (by have := h.1; omega)]
  rw [h1]
  exact rdVs_row vs r h.2
/-- Texts, counted, off the front. -/
def rdW (l : List UInt8) : List ByteArray × List UInt8 := rdTs (rdN 1 l) (l.drop 1)
theorem rdW_front (ks : List ByteArray) (r : List UInt8) (hl : ks.length ≤ 8) (h : ∀ s ∈ ks, s.size ≤ 30) : rdW (UInt8.ofNat ks.length :: (ks.flatMap textL ++ r)) = (ks, r) := by
  unfold rdW
  rw [rdN_one, UInt8.toNat_ofNat', Nat.mod_eq_of_lt (by omega)]
  exact rdTs_flat ks r h
/-- Columns, counted, off the front. -/
def rdK (l : List UInt8) : List Cl × List UInt8 := rdCs (rdN 1 l) (l.drop 1)
theorem rdK_front (cs : List Cl) (r : List UInt8) (hl : cs.length ≤ 8) (h : ∀ c ∈ cs, c.tame) : rdK (UInt8.ofNat cs.length :: (cs.flatMap colL ++ r)) = (cs, r) := by
  unfold rdK
  rw [rdN_one, UInt8.toNat_ofNat', Nat.mod_eq_of_lt (by omega)]
  exact rdCs_flat cs r h
/-- A change of a table off the front, and what is left. -/
def rdD (tb : ByteArray) (l : List UInt8) : Dc × List UInt8 :=
  (⟨(rdN 1 l : Int), tb, (rdK (l.drop 1)).1, (rdW (rdK (l.drop 1)).2).1, (rdT (rdW (rdK (l.drop 1)).2).2).1, (rdT (rdT (rdW (rdK (l.drop 1)).2).2).2).1⟩, (rdT (rdT (rdW (rdK (l.drop 1)).2).2).2).2)
/-- A change as it may be written. -/
def Dc.tame (d : Dc) : Prop := d.small ∧ d.kind ≤ 255 ∧ ∀ c ∈ d.cols, c.ty ≤ 255
theorem rdD_ddl (d : Dc) (r : List UInt8) (h : d.tame) : rdD d.table (ddlL d ++ r) = (d, r) := by
  obtain ⟨⟨h0, h1, h2, h3, h4, h5, h6⟩, h7, h8⟩ := h
  obtain ⟨kd, tb, cs, ks, nm, to⟩ := d
  simp only at *
  obtain ⟨N, rfl⟩ : ∃ N : Nat, kd = (N : Int) := ⟨kd.toNat, by omega⟩
  have e0 : ddlL ⟨(N : Int), tb, cs, ks, nm, to⟩ ++ r = UInt8.ofNat N :: UInt8.ofNat cs.length :: (cs.flatMap colL ++ (UInt8.ofNat ks.length :: (ks.flatMap textL ++ (textL nm ++ (textL to ++ r))))) := by simp [ddlL]
  have e2 : (UInt8.ofNat N).toNat = N := by rw [UInt8.toNat_ofNat', Nat.mod_eq_of_lt (by omega)]
  have e3 := rdK_front cs (UInt8.ofNat ks.length :: (ks.flatMap textL ++ (textL nm ++ (textL to ++ r)))) h1 (fun c hc => ⟨h2 c hc, h8 c hc⟩)
  have e4 := rdW_front ks (textL nm ++ (textL to ++ r)) h3 h4
  have e5 := rdT_text nm (textL to ++ r) h5
  have e6 := rdT_text to r h6
  unfold rdD
  rw [e0]
  simp only [rdN_one, List.drop_succ_cons, List.drop_zero, e2, e3, e4, e5, e6]
/-- No change. -/
abbrev Dc.zero : Dc := ⟨0, noS, [], [], noS, noS⟩
/-- No statement at all. -/
abbrev Sc.zero : Sc := ⟨0, noS, [], [], Dc.zero⟩
/-- Values, counted, off the front. -/
def rdR (l : List UInt8) : List Vc × List UInt8 := rdVs (rdN 1 l) (l.drop 1)
/-- A statement off the front, behind one byte. -/
def rdS (l : List UInt8) : Sc :=
  ⟨(rdN 1 (l.drop 1) : Int), (rdT ((l.drop 1).drop 1)).1, (rdR (rdT ((l.drop 1).drop 1)).2).1, (rdR (rdR (rdT ((l.drop 1).drop 1)).2).2).1,
   if rdN 1 (l.drop 1) = 5 then (rdD (rdT ((l.drop 1).drop 1)).1 (rdR (rdR (rdT ((l.drop 1).drop 1)).2).2).2).1 else Dc.zero⟩
theorem Dc.nil_zero {d : Dc} (h : d.nil) : d = Dc.zero := by
  obtain ⟨kd, tb, cs, ks, nm, to⟩ := d
  obtain ⟨h1, h2, h3, h4, h5, h6⟩ := h
  simp only at *
  rw [h1, noneS h2, List.length_eq_zero_iff.1 h3, List.length_eq_zero_iff.1 h4, noneS h5, noneS h6]
theorem Sc.right_tame {s : Sc} (h : s.right) (h5 : s.kind = 5) : s.ddl.tame ∧ s.ddl.table = s.table := by
  have hs := Sc.right_small h
  obtain ⟨_, h⟩ := h
  rcases h with ⟨hk, _⟩ | ⟨hk, _⟩ | ⟨hk, _⟩ | ⟨hk, _⟩ | ⟨_, _, _, h3, h4⟩
  iterate 4 exact absurd h5 (by omega)
  have ht := Dc.right_tidy h3
  refine ⟨⟨hs.2.2.2.2.2 h5, by have := ht.1.2; omega, fun c hc => by have := (ht.2.2.1 c hc).2.2.1; omega⟩, h4⟩
theorem Sc.right_zero {s : Sc} (h : s.right) (h5 : s.kind ≠ 5) : s.ddl = Dc.zero := by
  obtain ⟨_, h⟩ := h
  rcases h with ⟨_, _, _, h⟩ | ⟨_, _, _, h⟩ | ⟨_, _, _, h⟩ | ⟨_, _, _, h⟩ | ⟨hk, _⟩
  iterate 4 exact Dc.nil_zero h
  exact absurd hk h5
/-- A right statement is read as it was written. -/
theorem rdS_stmt (s : Sc) (h : s.right) : rdS (stmtL s) = s := by
  obtain ⟨h1, h2, h3, h4, h5, _⟩ := Sc.right_small h
  have hT := Sc.right_tame h
  have hZ := Sc.right_zero h
  obtain ⟨kd, tb, key, row, dd⟩ := s
  simp only at *
  obtain ⟨N, rfl⟩ : ∃ N : Nat, kd = (N : Int) := ⟨kd.toNat, by omega⟩
  obtain ⟨Z, hZd⟩ : ∃ Z, Z = (if (N : Int) = 5 then ddlL dd else []) := ⟨_, rfl⟩
  have e0 : stmtL ⟨(N : Int), tb, key, row, dd⟩ = 83 :: UInt8.ofNat N :: (textL tb ++ (rowL key ++ (rowL row ++ Z))) := by rw [hZd]; simp [stmtL]
  have e2 : (UInt8.ofNat N).toNat = N := by rw [UInt8.toNat_ofNat', Nat.mod_eq_of_lt (by omega)]
  have e3 := rdT_text tb (rowL key ++ (rowL row ++ Z)) (by omega)
  have e4 : rdR (rowL key ++ (rowL row ++ Z)) = (key, rowL row ++ Z) := rdVs_front key _ h4
  have e5 : rdR (rowL row ++ Z) = (row, Z) := rdVs_front row _ h5
  unfold rdS
  rw [e0]
  simp only [rdN_one, List.drop_succ_cons, List.drop_zero, e2, e3, e4, e5]
  by_cases h : N = 5
  · subst h
    have hd := rdD_ddl dd [] (hT rfl).1
    rw [List.append_nil] at hd
    have hz : Z = ddlL dd := by rw [hZd]; simp
    rw [hz, if_pos rfl, ← (hT rfl).2, hd]
  · rw [if_neg h, ← hZ (by omega)]
theorem rdS_fit (l : List UInt8) : (rdS l).fit ∧ (rdS l).few := by
  have hm : (255 : Nat) ≤ maxLen := by unfold maxLen; omega
  have hv : ∀ l, vfit (rdR l).1 := fun l => fun c hc => Nat.le_trans (rdVs_fit _ _ c hc) hm
  have hn : ∀ l, (rdR l).1.length ≤ 1048576 := fun l => by
    have := rdN_byte l
    unfold rdR
    rw [rdVs_len]; omega
  have hd : ∀ tb l, tb.size ≤ 255 → (rdD tb l).1.fit ∧ (rdD tb l).1.few := fun tb l ht => by
    refine ⟨⟨Nat.le_trans ht hm, fun c hc => ?_, fun s hs => ?_, Nat.le_trans (rdT_size _) hm, Nat.le_trans (rdT_size _) hm⟩, ?_, ?_⟩
    · have := rdCs_fit _ _ c hc
      exact ⟨Nat.le_trans this.1 hm, Nat.le_trans this.2 hm⟩
    · exact Nat.le_trans (rdTs_fit _ _ s hs) hm
    · have := rdN_byte (l.drop 1)
      show (rdK (l.drop 1)).1.length ≤ _
      unfold rdK
      rw [rdCs_len]; omega
    · have := rdN_byte (rdK (l.drop 1)).2
      show (rdW (rdK (l.drop 1)).2).1.length ≤ _
      unfold rdW
      rw [rdTs_len]; omega
  have hz : Dc.zero.fit ∧ Dc.zero.few := ⟨⟨Nat.zero_le _, by simp, by simp, Nat.zero_le _, Nat.zero_le _⟩, by simp, by simp⟩
  refine ⟨⟨Nat.le_trans (rdT_size _) hm, hv _, hv _, ?_⟩, hn _, hn _, ?_⟩
  · show (if _ then _ else _ : Dc).fit
    split
    · exact (hd _ _ (rdT_size _)).1
    · exact hz.1
  · show (if _ then _ else _ : Dc).few
    split
    · exact (hd _ _ (rdT_size _)).2
    · exact hz.2
/-- What bytes are read as: the statement whose bytes they are. -/
def isStmt (l : List UInt8) (s : Sc) (q : Bool) : Prop := (q = true ∧ s.right ∧ stmtL s = l) ∨ (q = false ∧ (∀ u : Sc, u.right → stmtL u ≠ l) ∧ s = Sc.zero)
theorem isStmt.unique {l : List UInt8} {s u : Sc} {q r : Bool} (h : isStmt l s q) (k : isStmt l u r) : s = u ∧ q = r := by
  rcases h with ⟨h1, h2, h3⟩ | ⟨h1, h2, h3⟩
  · rcases k with ⟨k1, k2, k3⟩ | ⟨k1, k2, k3⟩
    · have e1 := rdS_stmt s h2
      have e2 := rdS_stmt u k2
      rw [h3] at e1
      rw [k3, e1] at e2
      exact ⟨e2, h1.trans k1.symm⟩
    · exact absurd h3 (k2 s h2)
  · rcases k with ⟨k1, k2, k3⟩ | ⟨k1, k2, k3⟩
    · exact absurd k3 (h2 u k2)
    · exact ⟨h3.trans k3.symm, h1.trans k1.symm⟩
end Go.Proofs.YtiijahoheajppaaGreat

namespace Go.Proofs.YtiijahoheajppaaGreat
open Go.ChangeShapes Go.WideShapes Go.ChangeAt Go.RowKit

theorem rdN_num (s n : Nat) (r : List UInt8) (h : n < 256 ^ s) : rdN s (numL n s ++ r) = n ∧ (numL n s ++ r).drop s = r := by
  have hl := numL_length n s
  refine ⟨?_, by rw [List.drop_append_of_le_length (by omega), List.drop_of_length_le (by omega), List.nil_append]⟩
  unfold rdN
  rw [if_pos (by rw [List.length_append]; omega), List.take_append_of_le_length (by omega), List.take_of_length_le (by omega), getF_numR, Nat.zero_mul, Nat.zero_add, Nat.mod_eq_of_lt h]
theorem rdN_two (n : Nat) (r : List UInt8) (h : n < 65536) : rdN 2 (numL n 2 ++ r) = n ∧ (numL n 2 ++ r).drop 2 = r := rdN_num 2 n r (by
  have : (256 : Nat) ^ 2 = 65536 := by decide
  omega)
theorem rdN_short (l : List UInt8) : rdN 2 l < 65536 := by
  unfold rdN
  split
  · have h := getF_lt (l.take 2) 0
    have h1 : (l.take 2).length ≤ 2 := by simp; omega
    have h2 : 256 ^ (l.take 2).length ≤ 256 ^ 2 := Nat.pow_le_pow_right (by omega) (by omega)
    have h3 : (256 : Nat) ^ 2 = 65536 := by decide
    omega
  · omega
open Classical in
/-- The statement whose bytes these are, or none. -/
noncomputable def stOf (l : List UInt8) : Sc := if (rdS l).right ∧ stmtL (rdS l) = l then rdS l else Sc.zero
theorem isStmt.of {l : List UInt8} {s : Sc} {q : Bool} (h : isStmt l s q) : s = stOf l := by
  rcases h with ⟨_, h1, h2⟩ | ⟨_, h1, rfl⟩
  · have e := rdS_stmt s h1
    rw [h2] at e
    unfold stOf
    rw [e, if_pos ⟨h1, h2⟩]
  · unfold stOf
    rw [if_neg fun h => h1 _ h.1 h.2]
theorem stOf_stmt (s : Sc) (h : s.right) : stOf (stmtL s) = s := (isStmt.of (Or.inl ⟨rfl, h, rfl⟩ : isStmt (stmtL s) s true)).symm
theorem Sc.zero_fit : Sc.zero.fit ∧ Sc.zero.few :=
  ⟨⟨Nat.zero_le _, fun c h => by simp at h, fun c h => by simp at h, Nat.zero_le _, fun c h => by simp at h, fun c h => by simp at h, Nat.zero_le _, Nat.zero_le _⟩, by simp, by simp, by simp, by simp⟩
theorem stOf_fit (l : List UInt8) : (stOf l).fit ∧ (stOf l).few := by
  unfold stOf
  split
  · exact rdS_fit l
  · exact Sc.zero_fit
/-- A part off the front, and what is left. -/
noncomputable def rdP (l : List UInt8) : Ptc × List UInt8 :=
  (⟨stOf ((l.drop 2).take (rdN 2 l)), (rdW ((l.drop 2).drop (rdN 2 l))).1, (rdW (rdW ((l.drop 2).drop (rdN 2 l))).2).1⟩, (rdW (rdW ((l.drop 2).drop (rdN 2 l))).2).2)
noncomputable def rdPs : Nat → List UInt8 → List Ptc × List UInt8
  | 0, l => ([], l)
  | n + 1, l => ((rdP l).1 :: (rdPs n (rdP l).2).1, (rdPs n (rdP l).2).2)
theorem rdPs_len : ∀ n l, (rdPs n l).1.length = n
  | 0, _ => rfl
  | n + 1, l => by simp [rdPs, rdPs_len n]
/-- A batch, behind one byte. -/
noncomputable def rdB (l : List UInt8) : Btc :=
  ⟨(rdN 2 (l.drop 1) : Int), (rdN 2 ((l.drop 1).drop 2) : Int), (rdPs (rdN 1 (((l.drop 1).drop 2).drop 2)) ((((l.drop 1).drop 2).drop 2).drop 1)).1⟩
theorem rdW_words (ks : List ByteArray) (r : List UInt8) (h : fewW ks) : rdW (wordsL ks ++ r) = (ks, r) := by
  have e : wordsL ks ++ r = UInt8.ofNat ks.length :: (ks.flatMap textL ++ r) := by simp [wordsL]
  rw [e]
  exact rdW_front ks r h.1 fun s hs => Nat.le_trans (fewW_size h s hs) (by omega)
theorem rdP_part (t : Ptc) (r : List UInt8) (h : t.right) : rdP (partL t ++ r) = (t, r) := by
  have hsl := stmtL_length h.1
  have e0 : partL t ++ r = numL (stmtL t.st).length 2 ++ (stmtL t.st ++ (wordsL t.cols ++ (wordsL t.keys ++ r))) := by simp [partL]
  obtain ⟨e1, e2⟩ := rdN_two (stmtL t.st).length (stmtL t.st ++ (wordsL t.cols ++ (wordsL t.keys ++ r))) (by omega)
  have e3 : (stmtL t.st ++ (wordsL t.cols ++ (wordsL t.keys ++ r))).take (stmtL t.st).length = stmtL t.st := by simp
  have e4 : (stmtL t.st ++ (wordsL t.cols ++ (wordsL t.keys ++ r))).drop (stmtL t.st).length = wordsL t.cols ++ (wordsL t.keys ++ r) := by simp
  have e5 := rdW_words t.cols (wordsL t.keys ++ r) h.2.1
  have e6 := rdW_words t.keys r h.2.2
  have e7 := stOf_stmt t.st h.1
  unfold rdP
  rw [e0, e1, e2, e3, e4, e5]
  simp only
  rw [e6, e7]
theorem rdPs_flat : ∀ (ts : List Ptc) (r : List UInt8), (∀ t ∈ ts, t.right) → rdPs ts.length (ts.flatMap partL ++ r) = (ts, r)
  | [], r, _ => rfl
  | t :: ts, r, h => by
    have e : (t :: ts).flatMap partL ++ r = partL t ++ (ts.flatMap partL ++ r) := by rw [List.flatMap_cons, List.append_assoc]
    have ih := rdPs_flat ts r fun x hx => h x (by simp [hx])
    show ((rdP _).1 :: _, _) = _
    rw [e, rdP_part t _ (h t (by simp))]
    simp only
    rw [ih]
/-- A right batch is read as it was written. -/
theorem rdB_bat (t : Btc) (h : t.right) : rdB (batL t) = t := by
  obtain ⟨⟨h1, h2, h3, h4⟩, h60, hp⟩ := h
  have hpr : ∀ p ∈ t.parts, p.right := fun x hx => by
    obtain ⟨i, hi, rfl⟩ := List.getElem_of_mem hx
    exact hp i hi
  obtain ⟨lsn, prev, ts⟩ := t
  simp only at *
  obtain ⟨N, rfl⟩ : ∃ N : Nat, lsn = (N : Int) := ⟨lsn.toNat, by omega⟩
  obtain ⟨P, rfl⟩ : ∃ P : Nat, prev = (P : Int) := ⟨prev.toNat, by omega⟩
  obtain ⟨S, hS⟩ : ∃ S, S = numL (sumL (batB ⟨(N : Int), (P : Int), ts⟩)) 3 := ⟨_, rfl⟩
  have e0 : batL ⟨(N : Int), (P : Int), ts⟩ = 80 :: (numL N 2 ++ (numL P 2 ++ (UInt8.ofNat ts.length :: (ts.flatMap partL ++ S)))) := by
    unfold batL
    rw [← hS]
    simp [batB]
  obtain ⟨e1, e2⟩ := rdN_two N (numL P 2 ++ (UInt8.ofNat ts.length :: (ts.flatMap partL ++ S))) (by omega)
  obtain ⟨e3, e4⟩ := rdN_two P (UInt8.ofNat ts.length :: (ts.flatMap partL ++ S)) (by omega)
  have e5 : rdN 1 (UInt8.ofNat ts.length :: (ts.flatMap partL ++ S)) = ts.length := by rw [rdN_one, UInt8.toNat_ofNat', Nat.mod_eq_of_lt (by omega)]
  have e6 := rdPs_flat ts S hpr
  unfold rdB
  rw [e0]
  simp only [List.drop_succ_cons, List.drop_zero]
  rw [e1, e2, e3, e4, e5]
  simp only [List.drop_succ_cons, List.drop_zero]
  rw [e6]
theorem rdW_fit (l : List UInt8) : (∀ s ∈ (rdW l).1, s.size ≤ maxLen) ∧ (rdW l).1.length ≤ 1048576 := by
  have hm : (255 : Nat) ≤ maxLen := by unfold maxLen; omega
  have := rdN_byte l
  exact ⟨fun s hs => Nat.le_trans (rdTs_fit _ _ s hs) hm, by unfold rdW; rw [rdTs_len]; omega⟩
theorem rdP_fit (l : List UInt8) : (rdP l).1.fit ∧ (rdP l).1.few :=
  ⟨⟨(stOf_fit _).1, (rdW_fit _).1, (rdW_fit _).1⟩, (stOf_fit _).2, (rdW_fit _).2, (rdW_fit _).2⟩
theorem rdPs_fit : ∀ n l, ∀ t ∈ (rdPs n l).1, t.fit ∧ t.few
  | 0, _, t, h => by simp [rdPs] at h
  | n + 1, l, t, h => by
    simp [rdPs] at h
    rcases h with rfl | h
    · exact rdP_fit l
    · exact rdPs_fit n _ t h
theorem rdB_fit (l : List UInt8) : (rdB l).fit ∧ (rdB l).few := by
  have := rdN_byte (((l.drop 1).drop 2).drop 2)
  refine ⟨fun t h => (rdPs_fit _ _ t h).1, ?_, fun t h => (rdPs_fit _ _ t h).2⟩
  show (rdPs _ _).1.length ≤ _
  rw [rdPs_len]; omega
/-- No batch. -/
abbrev Btc.zero : Btc := ⟨0, 0, []⟩
/-- What bytes are read as: the batch whose bytes they are. -/
def isBat (l : List UInt8) (t : Btc) (q : Bool) : Prop := (q = true ∧ t.right ∧ batL t = l) ∨ (q = false ∧ (∀ u : Btc, u.right → batL u ≠ l) ∧ t = Btc.zero)
theorem isBat.unique {l : List UInt8} {t u : Btc} {q r : Bool} (h : isBat l t q) (k : isBat l u r) : t = u ∧ q = r := by
  rcases h with ⟨h1, h2, h3⟩ | ⟨h1, h2, h3⟩
  · rcases k with ⟨k1, k2, k3⟩ | ⟨k1, k2, k3⟩
    · have e1 := rdB_bat t h2
      have e2 := rdB_bat u k2
      rw [h3] at e1
      rw [k3, e1] at e2
      exact ⟨e2, h1.trans k1.symm⟩
    · exact absurd h3 (k2 t h2)
  · rcases k with ⟨k1, k2, k3⟩ | ⟨k1, k2, k3⟩
    · exact absurd k3 (h2 u k2)
    · exact ⟨h3.trans k3.symm, h1.trans k1.symm⟩
theorem isBat.fit {l : List UInt8} {t : Btc} {q : Bool} (h : isBat l t q) : t.fit ∧ t.few := by
  rcases h with ⟨_, h2, rfl⟩ | ⟨_, _, rfl⟩
  · rw [← rdB_bat t h2]; exact rdB_fit _
  · exact ⟨fun t h => by simp at h, by simp, fun t h => by simp at h⟩
end Go.Proofs.YtiijahoheajppaaGreat

namespace Go.Proofs.YtiijahoheajppaaGreat
open Go.ChangeShapes Go.WideShapes Go.ChangeAt Go.RowKit

theorem Turns.low {S : Nat → Prop} {a b c : World} (h : Turns S a b) (k : Below a.heap.size b c) : Turns S a c :=
  ⟨k.os.trans h.os, k.tape.trans h.tape, k.output.trans h.output, Nat.le_trans h.size k.size, fun i hi hn => (k.block i hi).trans (h.block i hi hn)⟩
theorem RdB.low {w w' : World} {R B : Nat} {l : List UInt8} (h : RdB w R l) (hR : R < B) (k : Below B w w') : RdB w' R l := by
  obtain ⟨b, off, cap, ho, hb, h3, h4, hr⟩ := h
  refine ⟨b, off, cap, (k.block R hR).trans ho, hb, h3, h4, hr.1, ?_⟩
  rcases hr.2 with h0 | ⟨b', off', e, h1⟩
  · exact Or.inl h0
  · cases e
    exact Or.inr ⟨b, off, rfl, fun i hi j hj => (k.cell (p := ⟨b, off + i * 1 + j, none⟩) (Nat.lt_trans hb hR)).trans (h1 i hi j hj)⟩
set_option maxRecDepth 100000 in
set_option maxHeartbeats 1000000 in
/-- impl.readMany of values -/
theorem readMany_any (R : Nat) (l : List UInt8) (w : World) (h : RdB w R l) :
    Calls Tryz.prog 112 #[.pointer (some ⟨R, 0, none⟩), .func (.func 113) #[] #[]] w fun e w' => ∃ v, e = .returned v ∧ Got w' w.heap.size 128 3 v ((rdVs (rdN 1 l) (l.drop 1)).1.map Vc.cells) ∧ Turns (· = R) w w' := by
  have HN : Hid (Calls Tryz.prog 81 #[.pointer (some ⟨R, 0, none⟩), .int .i64 1] w fun e w' => e = .returned (.int .i64 (rdN 1 l : Int)) ∧ RdB w' R (l.drop 1) ∧ Turns (· = R) w w') := num_any R 1 l w h (by omega) (by omega)
  have hRw : R < w.heap.size := by obtain ⟨_, _, _, ho, _⟩ := h; exact ho.lt
  have hn256 := rdN_byte l
  clear h
  generalize l.drop 1 = D at HN ⊢
  generalize rdN 1 l = N at HN hn256 ⊢
  go_enter Tryz.func112, Tryz.ntmps112
  go_wp2_with fail
  refine HN.out.mono ?_
  rintro e w1 ⟨rfl, hd, ht⟩
  have HD : Hid (RdB w1 R D) := hd
  have HT : Hid (Turns (· = R) w w1) := ht
  clear hd ht
  go_wp2
  go_loopw [5, 8] (fun q i wr => ∃ (k : Nat) (vs : List Vc) (cur : List UInt8), k ≤ N ∧ i = .int .i64 (k : Int) ∧ vs.length = k ∧ Hid (vs ++ (rdVs (N - k) cur).1 = (rdVs N D).1) ∧ Hid (RdB wr R cur) ∧ Hid (Turns (· = R) w wr) ∧ Hid (Got wr w.heap.size 128 3 q (vs.map Vc.cells))) (fun _ i _ => N - (intOf i).toNat)
  case atStart => exact ⟨0, [], D, Nat.zero_le _, rfl, rfl, rfl, HD, HT, Got.nil _ _ _ _⟩
  case round =>
    clear HD HT
    obtain ⟨k, vs, cur, hk, rfl, hvk, HE, HD, HT, HG⟩ := hrel
    obtain ⟨a1, n1, c1, rfl, hg⟩ := HG.out.lit2
    have HG1 : Hid (Got wr w.heap.size 128 3 (.slice a1 n1 c1) (vs.map Vc.cells)) := hg
    clear hg HG
    by_cases hlt : k < N
    · have hlti : (k : Int) < N := by omega
      have HVA : Hid (Calls Tryz.prog 113 #[.pointer (some ⟨R, 0, none⟩)] wr fun e w' => e = .returned (.agg (rdV cur).1.cells) ∧ RdB w' R (rdV cur).2 ∧ Turns (· = R) wr w') := val_any R cur wr HD.out
      have HE' : Hid ((vs ++ [(rdV cur).1]) ++ (rdVs (N - (k + 1)) (rdV cur).2).1 = (rdVs N D).1) := by
        show _ = _
        rw [← HE.out, show N - k = (N - (k + 1)) + 1 by omega, List.append_assoc]; rfl
      generalize (rdV cur).2 = nxt at HVA HE'
      generalize (rdV cur).1 = c at HVA HE'
      obtain ⟨ty, n, x⟩ := c
      go_wp2_with fail
      refine HVA.out.mono ?_
      rintro e w2 ⟨rfl, hd, ht⟩
      have HD2 : Hid (RdB w2 R nxt) := hd
      have HT2 : Hid (Turns (· = R) w w2) := HT.out.trans ht
      have HG2 : Hid (Got w2 w.heap.size 128 3 (.slice a1 n1 c1) (vs.map Vc.cells)) := HG1.out.turns ht fun c h => by have h : c = R := h; omega
      have hs2 : w.heap.size ≤ w2.heap.size := HT2.out.size
      clear hd ht
      go_wp2_with (at_builtin; refine app_one rfl (.tmp 10) (.tmp 14) rfl Tryz.underlying40 infoVal rfl (by decide) (by decide) w.heap.size _ (vs.map Vc.cells) rfl (HG2.out.on (ch_alloc (Below.refl _ _) _)) w2.heap.size 1 #[.int .i64 ty, .int .i64 n, .string x] rfl (Loc.new _ _ _) rfl (val_one ⟨ty, n, x⟩) (by simp; omega) (by simp; omega) ?_; intro v3 w3 hg3 hb3)
      have HG3 : Hid (Got w3 w.heap.size 128 3 v3 ((vs ++ [(⟨ty, n, x⟩ : Vc)]).map Vc.cells)) := by
        show Got _ _ _ _ _ _
        rw [List.map_append]; exact hg3
      have hb23 : Below w.heap.size w2 w3 := (Below.alloc (Below.refl _ _) hs2 _).trans hb3
      have HD3 : Hid (RdB w3 R nxt) := HD2.out.low hRw hb23
      have HT3 : Hid (Turns (· = R) w w3) := HT2.out.low hb23
      clear hg3 hb3 hb23
      go_round
      case rel => exact ⟨k + 1, vs ++ [⟨ty, n, x⟩], nxt, by omega, by go_num, by simp; omega, HE', HD3, HT3, HG3⟩
      case measure => simp [intOf]; omega
    · have hlti : (N : Int) ≤ k := by omega
      have HF : Hid (vs = (rdVs N D).1) := by
        have := HE.out
        rw [show N - k = 0 by omega, rdVs] at this
        show vs = _
        simpa using this
      go_wp2
      go_ret
      exact ⟨_, rfl, by rw [← HF.out]; exact HG1.out, HT.out⟩
set_option maxRecDepth 100000 in
set_option maxHeartbeats 1000000 in
/-- impl.readVals -/
theorem readVals_any (R : Nat) (l : List UInt8) (w : World) (h : RdB w R l) :
    Calls Tryz.prog 83 #[.pointer (some ⟨R, 0, none⟩)] w fun e w' => ∃ v, e = .returned v ∧ Got w' w.heap.size 128 3 v ((rdVs (rdN 1 l) (l.drop 1)).1.map Vc.cells) ∧ Turns (· = R) w w' := by
  have HM := readMany_any R l w h
  have HM' : Hid (Calls Tryz.prog 112 #[.pointer (some ⟨R, 0, none⟩), .func (.func 113) #[] #[]] w fun e w' => ∃ v, e = .returned v ∧ Got w' w.heap.size 128 3 v ((rdVs (rdN 1 l) (l.drop 1)).1.map Vc.cells) ∧ Turns (· = R) w w') := HM
  clear HM h
  generalize (rdVs (rdN 1 l) (l.drop 1)).1 = vs at HM' ⊢
  go_enter Tryz.func83, Tryz.ntmps83
  go_wp2_with fail
  refine HM'.out.mono ?_
  rintro e w1 ⟨v, rfl, hg, ht⟩
  have HG : Hid (Got w1 w.heap.size 128 3 v (vs.map Vc.cells)) := hg
  have HT : Hid (Turns (· = R) w w1) := ht
  clear hg ht
  go_wp2
  go_ret
  exact ⟨_, rfl, HG.out, HT.out⟩

set_option maxRecDepth 100000 in
set_option maxHeartbeats 1000000 in
/-- bytes.Equal -/
theorem bytesEqual_any (v v' : Value) (l l' : List UInt8) (w : World) (h : Hid (∃ b off cap, v = .slice (some ⟨b, off, none⟩) l.length cap ∧ RowAt w (some ⟨b, off, none⟩) 1 (l.map byX))) (h' : Hid (∃ b off cap, v' = .slice (some ⟨b, off, none⟩) l'.length cap ∧ RowAt w (some ⟨b, off, none⟩) 1 (l'.map byX))) :
    Calls Tryz.prog 79 #[v, v'] w fun e w' => ∃ q : Bool, e = .returned (.bool q) ∧ (q = true ↔ l = l') ∧ Below w.heap.size w w' := by
  obtain ⟨b, off, cap, rfl, hr⟩ := h.out
  obtain ⟨b', off', cap', rfl, hr'⟩ := h'.out
  have hcv := conv_back w b off cap l hr
  have hcv' := conv_back w b' off' cap' l' hr'
  clear h h' hr hr'
  go_enter Tryz.func79, Tryz.ntmps79
  go_wp2
  go_ret
  exact ⟨_, rfl, by simp, (by repeat (first | with_reducible exact Below.refl _ _ | with_reducible assumption | with_reducible refine ch_alloc ?_ _ | with_reducible refine Below.drew ?_ | with_reducible refine below_draws _ ?_ | (with_reducible refine Below.setCell ?_ ?_ _; rotate_left; focus (first | with_reducible exact Nat.le_refl _ | (simp; done) | (simp; omega) | (simp at *; omega))) | with_reducible refine ch_trans ?_ (by with_reducible assumption)))⟩
/-- What bytes are read as: the row whose bytes they are. -/
def isRow (l : List UInt8) (vs : List Vc) (q : Bool) : Prop := (q = true ∧ okRow vs ∧ rowL vs = l) ∨ (q = false ∧ (∀ us, okRow us → rowL us ≠ l) ∧ vs = [])
theorem isRow.unique {l : List UInt8} {vs us : List Vc} {q r : Bool} (h : isRow l vs q) (k : isRow l us r) : vs = us ∧ q = r := by
  rcases h with ⟨h1, h2, h3⟩ | ⟨h1, h2, h3⟩
  · rcases k with ⟨k1, k2, k3⟩ | ⟨k1, k2, k3⟩
    · have e1 := rdVs_rowL vs h2
      have e2 := rdVs_rowL us k2
      rw [h3] at e1
      rw [k3, e1] at e2
      simp at e2
      exact ⟨e2, h1.trans k1.symm⟩
    · exact absurd h3 (k2 vs h2)
  · rcases k with ⟨k1, k2, k3⟩ | ⟨k1, k2, k3⟩
    · exact absurd k3 (h2 us k2)
    · exact ⟨h3.trans k3.symm, h1.trans k1.symm⟩
theorem Got.someV {w : World} {B : Nat} {T : TypeId} {v : Value} {l : List UInt8} (h : Got w B T 1 v (l.map byX)) (h0 : 1 ≤ l.length) : ∃ b off cap, v = .slice (some ⟨b, off, none⟩) l.length cap ∧ RowAt w (some ⟨b, off, none⟩) 1 (l.map byX) := by
  obtain ⟨a, cap, e, _, _, h3, _⟩ := h.row
  obtain ⟨b, off, rfl, _⟩ := h3.bytes 0 h0
  exact ⟨b, off, cap, by simpa using e, h3⟩
end Go.Proofs.YtiijahoheajppaaGreat

namespace Go.Proofs.YtiijahoheajppaaGreat
open Go.ChangeShapes Go.WideShapes Go.ChangeAt Go.RowKit

theorem infoColR : (Tryz.prog.info? 131).map (fun i => (i.zero, i.size, i.bytes)) = some (some (.agg #[.string ByteArray.empty, .int .i64 0, .bool false, .bool false, .int .i64 0, .int .i64 0, .string ByteArray.empty]), 7, 64) := by kernel_rfl
theorem infoStrR : (Tryz.prog.info? 9).map (fun i => (i.zero, i.size, i.bytes)) = some (some (.string ByteArray.empty), 1, 16) := by kernel_rfl
theorem col_oneR (c : Cl) : ∀ u ∈ c.cells.toList, u.oneCell' = true := fun u hu => by
  simp at hu
  rcases hu with rfl | rfl | rfl | rfl | rfl | rfl | rfl <;> rfl
theorem str_oneR (s : ByteArray) : ∀ u ∈ (strX s).toList, u.oneCell' = true := fun u hu => by simp at hu; subst hu; rfl
theorem RdB.many {w : World} {R b : Nat} {l : List UInt8} (hR : R < b) : ∀ (vs : List Value) (w2 : World) (o : Nat), RdB w2 R l → w.heap.size ≤ b → Turns (· = R) w w2 → RdB (stores w2 b o vs) R l ∧ Turns (· = R) w (stores w2 b o vs)
  | [], _, _, h, _, ht => ⟨h, ht⟩
  | v :: vs, _, o, h, hb, ht => RdB.many hR vs _ _ (h.other (p := ⟨b, o, none⟩) hR v) hb (ht.fresh (p := ⟨b, o, none⟩) hb v)

set_option maxRecDepth 100000 in
set_option maxHeartbeats 1000000 in
theorem col_aux (R : Nat) (w : World) (l D1 D2 D3 D4 D5 : List UInt8) (X1 s : ByteArray) (N ty n : Int) (f1 f2 : Bool) (h : RdB w R l)
    (HT : Hid (∀ u : World, RdB u R l → Calls Tryz.prog 82 #[.pointer (some ⟨R, 0, none⟩)] u fun e w' => e = .returned (.string X1) ∧ RdB w' R D1 ∧ Turns (· = R) u w'))
    (HN : Hid (∀ u : World, RdB u R D1 → Calls Tryz.prog 81 #[.pointer (some ⟨R, 0, none⟩), .int .i64 1] u fun e w' => e = .returned (.int .i64 N) ∧ RdB w' R D2 ∧ Turns (· = R) u w'))
    (HF1 : Hid (∀ u : World, RdB u R D2 → Calls Tryz.prog 138 #[.pointer (some ⟨R, 0, none⟩)] u fun e w' => e = .returned (.bool f1) ∧ RdB w' R D3 ∧ Turns (· = R) u w'))
    (HF2 : Hid (∀ u : World, RdB u R D3 → Calls Tryz.prog 138 #[.pointer (some ⟨R, 0, none⟩)] u fun e w' => e = .returned (.bool f2) ∧ RdB w' R D4 ∧ Turns (· = R) u w'))
    (HV : Hid (∀ u : World, RdB u R D4 → Calls Tryz.prog 113 #[.pointer (some ⟨R, 0, none⟩)] u fun e w' => e = .returned (.agg #[.int .i64 ty, .int .i64 n, .string s]) ∧ RdB w' R D5 ∧ Turns (· = R) u w')) :
    Calls Tryz.prog 115 #[.pointer (some ⟨R, 0, none⟩)] w fun e w' => e = .returned (.agg #[.string X1, .int .i64 N, .bool f1, .bool f2, .int .i64 ty, .int .i64 n, .string s]) ∧ RdB w' R D5 ∧ Turns (· = R) w w' := by
  have HR : Hid (RdB w R l) := h
  have hRw : R < w.heap.size := by obtain ⟨_, _, _, ho, _⟩ := h; exact ho.lt
  clear h
  have hb0 : Below w.heap.size w (w.alloc (.cells #[.string noS, .int .i64 0, .bool false, .bool false, .int .i64 0, .int .i64 0, .string noS] 131)) := (by repeat (first | with_reducible exact Below.refl _ _ | with_reducible assumption | with_reducible refine ch_alloc ?_ _ | with_reducible refine Below.drew ?_ | with_reducible refine below_draws _ ?_ | (with_reducible refine Below.setCell ?_ ?_ _; rotate_left; focus (first | with_reducible exact Nat.le_refl _ | (simp; done) | (simp; omega) | (simp at *; omega))) | with_reducible refine ch_trans ?_ (by with_reducible assumption)))
  have HO0 : Own (w.alloc (.cells #[.string noS, .int .i64 0, .bool false, .bool false, .int .i64 0, .int .i64 0, .string noS] 131)) w.heap.size 131 #[.string noS, .int .i64 0, .bool false, .bool false, .int .i64 0, .int .i64 0, .string noS] := Own.new _ _ _
  have HT0 : Turns (· = R) w (w.alloc (.cells #[.string noS, .int .i64 0, .bool false, .bool false, .int .i64 0, .int .i64 0, .string noS] 131)) := (Turns.refl (· = R) w).below hb0
  go_enter Tryz.func115, Tryz.ntmps115
  go_wp2_with fail
  refine (HT.out _ (HR.out.on hb0)).mono ?_
  rintro e w1 ⟨rfl, hd1, ht1⟩
  have HO1 := HO0.turned ht1 (by show ¬ (w.heap.size = R); omega)
  have HT1 := HT0.trans ht1
  have HD1 : Hid (RdB w1 R D1) := hd1
  clear hb0 HO0 HT0 hd1 ht1 HT HR
  go_wp2_with fail
  refine (HN.out _ HD1.out).mono ?_
  rintro e w2 ⟨rfl, hd2, ht2⟩
  have HO2 := HO1.turned ht2 (by show ¬ (w.heap.size = R); omega)
  have HT2 := HT1.trans ht2
  have HD2 : Hid (RdB w2 R D2) := hd2
  clear HO1 HT1 hd2 ht2 HN HD1
  go_wp2_with fail
  refine (HF1.out _ HD2.out).mono ?_
  rintro e w3 ⟨rfl, hd3, ht3⟩
  have HO3 := HO2.turned ht3 (by show ¬ (w.heap.size = R); omega)
  have HT3 := HT2.trans ht3
  have HD3 : Hid (RdB w3 R D3) := hd3
  clear HO2 HT2 hd3 ht3 HF1 HD2
  go_wp2_with fail
  refine (HF2.out _ HD3.out).mono ?_
  rintro e w4 ⟨rfl, hd4, ht4⟩
  have HO4 := HO3.turned ht4 (by show ¬ (w.heap.size = R); omega)
  have HT4 := HT3.trans ht4
  have HD4 : Hid (RdB w4 R D4) := hd4
  clear HO3 HT3 hd4 ht4 HF2 HD3
  go_wp2_with fail
  refine (HV.out _ HD4.out).mono ?_
  rintro e w5 ⟨rfl, hd5, ht5⟩
  have HO5 := HO4.turned ht5 (by show ¬ (w.heap.size = R); omega)
  have HT5 := HT4.trans ht5
  have HM : Hid (RdB (stores w5 w.heap.size 0 [.string X1, .int .i64 N, .bool f1, .bool f2, .int .i64 ty, .int .i64 n, .string s]) R D5 ∧ Turns (· = R) w (stores w5 w.heap.size 0 [.string X1, .int .i64 N, .bool f1, .bool f2, .int .i64 ty, .int .i64 n, .string s])) := RdB.many hRw _ _ _ hd5 (Nat.le_refl _) HT5
  have HQ : Own (stores w5 w.heap.size 0 [.string X1, .int .i64 N, .bool f1, .bool f2, .int .i64 ty, .int .i64 n, .string s]) w.heap.size 131 #[.string X1, .int .i64 N, .bool f1, .bool f2, .int .i64 ty, .int .i64 n, .string s] := HO5.fill (old := [_, _, _, _, _, _, _]) [.string X1, .int .i64 N, .bool f1, .bool f2, .int .i64 ty, .int .i64 n, .string s] rfl
  obtain ⟨d0, d1, d2, d3, d4, d5, d6⟩ := HO5.loc.seven
  have k0 := HO5.frozen 0
  have k1 := HO5.frozen 1
  have k2 := HO5.frozen 2
  have k3 := HO5.frozen 3
  have k4 := HO5.frozen 4
  have k5 := HO5.frozen 5
  have k6 := HO5.frozen 6
  clear HO4 HT4 hd5 ht5 HV HD4 HO5 HT5
  simp only [stores, Nat.reduceAdd] at HM HQ
  go_wp2
  generalize (((((((w5.setCell ⟨w.heap.size, 0, none⟩ (.string X1)).setCell ⟨w.heap.size, 1, none⟩ (.int .i64 N)).setCell ⟨w.heap.size, 2, none⟩ (.bool f1)).setCell ⟨w.heap.size, 3, none⟩ (.bool f2)).setCell ⟨w.heap.size, 4, none⟩ (.int .i64 ty)).setCell ⟨w.heap.size, 5, none⟩ (.int .i64 n)).setCell ⟨w.heap.size, 6, none⟩ (.string s)) = W at HM HQ ⊢
  obtain ⟨e0, e1, e2, e3, e4, e5, e6⟩ := HQ.loc.seven
  exact bodyPost_ret (v := .agg #[.string X1, .int .i64 N, .bool f1, .bool f2, .int .i64 ty, .int .i64 n, .string s]) (by simp [results, Tryz.results115, go_sem, e0, e1, e2, e3, e4, e5, e6]) rfl ⟨rfl, HM.out.1, HM.out.2⟩

/-- (*impl.byteReader).col -/
theorem col_any (R : Nat) (l : List UInt8) (w : World) (h : RdB w R l) :
    Calls Tryz.prog 115 #[.pointer (some ⟨R, 0, none⟩)] w fun e w' => e = .returned (.agg (rdC l).1.cells) ∧ RdB w' R (rdC l).2 ∧ Turns (· = R) w w' :=
  col_aux R w l _ _ _ _ _ _ _ _ _ _ _ _ h (fun u hu => text_any R l u hu) (fun u hu => num_any R 1 _ u hu (by omega) (by omega)) (fun u hu => flag_any R _ u hu) (fun u hu => flag_any R _ u hu) (fun u hu => val_any R _ u hu)

set_option maxRecDepth 100000 in
set_option maxHeartbeats 1000000 in
/-- impl.readMany of columns -/
theorem readCols_any (R : Nat) (l : List UInt8) (w : World) (h : RdB w R l) :
    Calls Tryz.prog 114 #[.pointer (some ⟨R, 0, none⟩), .func (.func 115) #[] #[]] w fun e w' => ∃ v, e = .returned v ∧ Got w' w.heap.size 131 7 v ((rdCs (rdN 1 l) (l.drop 1)).1.map Cl.cells) ∧ RdB w' R (rdCs (rdN 1 l) (l.drop 1)).2 ∧ Turns (· = R) w w' := by
  have HN : Hid (Calls Tryz.prog 81 #[.pointer (some ⟨R, 0, none⟩), .int .i64 1] w fun e w' => e = .returned (.int .i64 (rdN 1 l : Int)) ∧ RdB w' R (l.drop 1) ∧ Turns (· = R) w w') := num_any R 1 l w h (by omega) (by omega)
  have hRw : R < w.heap.size := by obtain ⟨_, _, _, ho, _⟩ := h; exact ho.lt
  have hn256 := rdN_byte l
  clear h
  generalize l.drop 1 = D at HN ⊢
  generalize rdN 1 l = N at HN hn256 ⊢
  go_enter Tryz.func114, Tryz.ntmps114
  go_wp2_with fail
  refine HN.out.mono ?_
  rintro e w1 ⟨rfl, hd, ht⟩
  have HD : Hid (RdB w1 R D) := hd
  have HT : Hid (Turns (· = R) w w1) := ht
  clear hd ht
  go_wp2
  go_loopw [5, 8] (fun q i wr => ∃ (k : Nat) (vs : List Cl) (cur : List UInt8), k ≤ N ∧ i = .int .i64 (k : Int) ∧ vs.length = k ∧ Hid (vs ++ (rdCs (N - k) cur).1 = (rdCs N D).1 ∧ (rdCs (N - k) cur).2 = (rdCs N D).2) ∧ Hid (RdB wr R cur) ∧ Hid (Turns (· = R) w wr) ∧ Hid (Got wr w.heap.size 131 7 q (vs.map Cl.cells))) (fun _ i _ => N - (intOf i).toNat)
  case atStart => exact ⟨0, [], D, Nat.zero_le _, rfl, rfl, ⟨rfl, rfl⟩, HD, HT, Got.nil _ _ _ _⟩
  case round =>
    clear HD HT
    obtain ⟨k, vs, cur, hk, rfl, hvk, HE, HD, HT, HG⟩ := hrel
    obtain ⟨a1, n1, c1, rfl, hg⟩ := HG.out.lit2
    have HG1 : Hid (Got wr w.heap.size 131 7 (.slice a1 n1 c1) (vs.map Cl.cells)) := hg
    clear hg HG
    by_cases hlt : k < N
    · have hlti : (k : Int) < N := by omega
      have HVA : Hid (Calls Tryz.prog 115 #[.pointer (some ⟨R, 0, none⟩)] wr fun e w' => e = .returned (.agg (rdC cur).1.cells) ∧ RdB w' R (rdC cur).2 ∧ Turns (· = R) wr w') := col_any R cur wr HD.out
      have HE' : Hid ((vs ++ [(rdC cur).1]) ++ (rdCs (N - (k + 1)) (rdC cur).2).1 = (rdCs N D).1 ∧ (rdCs (N - (k + 1)) (rdC cur).2).2 = (rdCs N D).2) := by
        refine ⟨?_, ?_⟩
        · rw [← HE.out.1, show N - k = (N - (k + 1)) + 1 by omega, List.append_assoc]; rfl
        · rw [← HE.out.2, show N - k = (N - (k + 1)) + 1 by omega]; rfl
      generalize (rdC cur).2 = nxt at HVA HE'
      generalize (rdC cur).1 = c at HVA HE'
      obtain ⟨nm, ty, nt, has, dt, dn, ds⟩ := c
      go_wp2_with fail
      refine HVA.out.mono ?_
      rintro e w2 ⟨rfl, hd, ht⟩
      have HD2 : Hid (RdB w2 R nxt) := hd
      have HT2 : Hid (Turns (· = R) w w2) := HT.out.trans ht
      have HG2 : Hid (Got w2 w.heap.size 131 7 (.slice a1 n1 c1) (vs.map Cl.cells)) := HG1.out.turns ht fun c h => by have h : c = R := h; omega
      have hs2 : w.heap.size ≤ w2.heap.size := HT2.out.size
      clear hd ht
      go_wp2_with (at_builtin; refine app_one rfl (.tmp 10) (.tmp 14) rfl Tryz.underlying43 infoColR rfl (by decide) (by decide) w.heap.size _ (vs.map Cl.cells) rfl (HG2.out.on (ch_alloc (Below.refl _ _) _)) w2.heap.size 1 #[.string nm, .int .i64 ty, .bool nt, .bool has, .int .i64 dt, .int .i64 dn, .string ds] rfl (Loc.new _ _ _) rfl (col_oneR ⟨nm, ty, nt, has, dt, dn, ds⟩) (by simp; omega) (by simp; omega) ?_; intro v3 w3 hg3 hb3)
      have HG3 : Hid (Got w3 w.heap.size 131 7 v3 ((vs ++ [(⟨nm, ty, nt, has, dt, dn, ds⟩ : Cl)]).map Cl.cells)) := by
        show Got _ _ _ _ _ _
        rw [List.map_append]; exact hg3
      have hb23 : Below w.heap.size w2 w3 := (Below.alloc (Below.refl _ _) hs2 _).trans hb3
      have HD3 : Hid (RdB w3 R nxt) := HD2.out.low hRw hb23
      have HT3 : Hid (Turns (· = R) w w3) := HT2.out.low hb23
      clear hg3 hb3 hb23
      go_round
      case rel => exact ⟨k + 1, vs ++ [⟨nm, ty, nt, has, dt, dn, ds⟩], nxt, by omega, by go_num, by simp; omega, HE', HD3, HT3, HG3⟩
      case measure => simp [intOf]; omega
    · have hlti : (N : Int) ≤ k := by omega
      have HF : Hid (vs = (rdCs N D).1 ∧ cur = (rdCs N D).2) := by
        have := HE.out
        rw [show N - k = 0 by omega, rdCs] at this
        show vs = _ ∧ _
        simpa using this
      go_wp2
      go_ret
      exact ⟨_, rfl, by rw [← HF.out.1]; exact HG1.out, by rw [← HF.out.2]; exact HD.out, HT.out⟩
set_option maxRecDepth 100000 in
set_option maxHeartbeats 1000000 in
/-- impl.readMany of texts -/
theorem readTexts_any (R : Nat) (l : List UInt8) (w : World) (h : RdB w R l) :
    Calls Tryz.prog 139 #[.pointer (some ⟨R, 0, none⟩), .func (.func 82) #[] #[]] w fun e w' => ∃ v, e = .returned v ∧ Got w' w.heap.size 9 1 v ((rdTs (rdN 1 l) (l.drop 1)).1.map strX) ∧ RdB w' R (rdTs (rdN 1 l) (l.drop 1)).2 ∧ Turns (· = R) w w' := by
  have HN : Hid (Calls Tryz.prog 81 #[.pointer (some ⟨R, 0, none⟩), .int .i64 1] w fun e w' => e = .returned (.int .i64 (rdN 1 l : Int)) ∧ RdB w' R (l.drop 1) ∧ Turns (· = R) w w') := num_any R 1 l w h (by omega) (by omega)
  have hRw : R < w.heap.size := by obtain ⟨_, _, _, ho, _⟩ := h; exact ho.lt
  have hn256 := rdN_byte l
  clear h
  generalize l.drop 1 = D at HN ⊢
  generalize rdN 1 l = N at HN hn256 ⊢
  go_enter Tryz.func139, Tryz.ntmps139
  go_wp2_with fail
  refine HN.out.mono ?_
  rintro e w1 ⟨rfl, hd, ht⟩
  have HD : Hid (RdB w1 R D) := hd
  have HT : Hid (Turns (· = R) w w1) := ht
  clear hd ht
  go_wp2
  go_loopw [5, 8] (fun q i wr => ∃ (k : Nat) (vs : List ByteArray) (cur : List UInt8), k ≤ N ∧ i = .int .i64 (k : Int) ∧ vs.length = k ∧ Hid (vs ++ (rdTs (N - k) cur).1 = (rdTs N D).1 ∧ (rdTs (N - k) cur).2 = (rdTs N D).2) ∧ Hid (RdB wr R cur) ∧ Hid (Turns (· = R) w wr) ∧ Hid (Got wr w.heap.size 9 1 q (vs.map strX))) (fun _ i _ => N - (intOf i).toNat)
  case atStart => exact ⟨0, [], D, Nat.zero_le _, rfl, rfl, ⟨rfl, rfl⟩, HD, HT, Got.nil _ _ _ _⟩
  case round =>
    clear HD HT
    obtain ⟨k, vs, cur, hk, rfl, hvk, HE, HD, HT, HG⟩ := hrel
    obtain ⟨a1, n1, c1, rfl, hg⟩ := HG.out.lit2
    have HG1 : Hid (Got wr w.heap.size 9 1 (.slice a1 n1 c1) (vs.map strX)) := hg
    clear hg HG
    by_cases hlt : k < N
    · have hlti : (k : Int) < N := by omega
      have HVA : Hid (Calls Tryz.prog 82 #[.pointer (some ⟨R, 0, none⟩)] wr fun e w' => e = .returned (.string (rdT cur).1) ∧ RdB w' R (rdT cur).2 ∧ Turns (· = R) wr w') := text_any R cur wr HD.out
      have HE' : Hid ((vs ++ [(rdT cur).1]) ++ (rdTs (N - (k + 1)) (rdT cur).2).1 = (rdTs N D).1 ∧ (rdTs (N - (k + 1)) (rdT cur).2).2 = (rdTs N D).2) := by
        refine ⟨?_, ?_⟩
        · rw [← HE.out.1, show N - k = (N - (k + 1)) + 1 by omega, List.append_assoc]; rfl
        · rw [← HE.out.2, show N - k = (N - (k + 1)) + 1 by omega]; rfl
      generalize (rdT cur).2 = nxt at HVA HE'
      generalize (rdT cur).1 = c at HVA HE'
      go_wp2_with fail
      refine HVA.out.mono ?_
      rintro e w2 ⟨rfl, hd, ht⟩
      have HD2 : Hid (RdB w2 R nxt) := hd
      have HT2 : Hid (Turns (· = R) w w2) := HT.out.trans ht
      have HG2 : Hid (Got w2 w.heap.size 9 1 (.slice a1 n1 c1) (vs.map strX)) := HG1.out.turns ht fun c h => by have h : c = R := h; omega
      have hs2 : w.heap.size ≤ w2.heap.size := HT2.out.size
      clear hd ht
      go_wp2_with (at_builtin; refine app_one rfl (.tmp 10) (.tmp 14) rfl Tryz.underlying44 infoStrR rfl (by decide) (by decide) w.heap.size _ (vs.map strX) rfl (HG2.out.on (ch_alloc (Below.refl _ _) _)) w2.heap.size 1 #[.string c] rfl (Loc.new _ _ _) rfl (str_oneR c) (by simp; omega) (by simp; omega) ?_; intro v3 w3 hg3 hb3)
      have HG3 : Hid (Got w3 w.heap.size 9 1 v3 ((vs ++ [c]).map strX)) := by
        show Got _ _ _ _ _ _
        rw [List.map_append]; exact hg3
      have hb23 : Below w.heap.size w2 w3 := (Below.alloc (Below.refl _ _) hs2 _).trans hb3
      have HD3 : Hid (RdB w3 R nxt) := HD2.out.low hRw hb23
      have HT3 : Hid (Turns (· = R) w w3) := HT2.out.low hb23
      clear hg3 hb3 hb23
      go_round
      case rel => exact ⟨k + 1, vs ++ [c], nxt, by omega, by go_num, by simp; omega, HE', HD3, HT3, HG3⟩
      case measure => simp [intOf]; omega
    · have hlti : (N : Int) ≤ k := by omega
      have HF : Hid (vs = (rdTs N D).1 ∧ cur = (rdTs N D).2) := by
        have := HE.out
        rw [show N - k = 0 by omega, rdTs] at this
        show vs = _ ∧ _
        simpa using this
      go_wp2
      go_ret
      exact ⟨_, rfl, by rw [← HF.out.1]; exact HG1.out, by rw [← HF.out.2]; exact HD.out, HT.out⟩

set_option maxRecDepth 100000 in
set_option maxHeartbeats 1000000 in
/-- impl.readMany of values -/
theorem readValsX_any (R : Nat) (l : List UInt8) (w : World) (h : RdB w R l) :
    Calls Tryz.prog 112 #[.pointer (some ⟨R, 0, none⟩), .func (.func 113) #[] #[]] w fun e w' => ∃ v, e = .returned v ∧ Got w' w.heap.size 128 3 v ((rdVs (rdN 1 l) (l.drop 1)).1.map Vc.cells) ∧ RdB w' R (rdVs (rdN 1 l) (l.drop 1)).2 ∧ Turns (· = R) w w' := by
  have HN : Hid (Calls Tryz.prog 81 #[.pointer (some ⟨R, 0, none⟩), .int .i64 1] w fun e w' => e = .returned (.int .i64 (rdN 1 l : Int)) ∧ RdB w' R (l.drop 1) ∧ Turns (· = R) w w') := num_any R 1 l w h (by omega) (by omega)
  have hRw : R < w.heap.size := by obtain ⟨_, _, _, ho, _⟩ := h; exact ho.lt
  have hn256 := rdN_byte l
  clear h
  generalize l.drop 1 = D at HN ⊢
  generalize rdN 1 l = N at HN hn256 ⊢
  go_enter Tryz.func112, Tryz.ntmps112
  go_wp2_with fail
  refine HN.out.mono ?_
  rintro e w1 ⟨rfl, hd, ht⟩
  have HD : Hid (RdB w1 R D) := hd
  have HT : Hid (Turns (· = R) w w1) := ht
  clear hd ht
  go_wp2
  go_loopw [5, 8] (fun q i wr => ∃ (k : Nat) (vs : List Vc) (cur : List UInt8), k ≤ N ∧ i = .int .i64 (k : Int) ∧ vs.length = k ∧ Hid (vs ++ (rdVs (N - k) cur).1 = (rdVs N D).1 ∧ (rdVs (N - k) cur).2 = (rdVs N D).2) ∧ Hid (RdB wr R cur) ∧ Hid (Turns (· = R) w wr) ∧ Hid (Got wr w.heap.size 128 3 q (vs.map Vc.cells))) (fun _ i _ => N - (intOf i).toNat)
  case atStart => exact ⟨0, [], D, Nat.zero_le _, rfl, rfl, ⟨rfl, rfl⟩, HD, HT, Got.nil _ _ _ _⟩
  case round =>
    clear HD HT
    obtain ⟨k, vs, cur, hk, rfl, hvk, HE, HD, HT, HG⟩ := hrel
    obtain ⟨a1, n1, c1, rfl, hg⟩ := HG.out.lit2
    have HG1 : Hid (Got wr w.heap.size 128 3 (.slice a1 n1 c1) (vs.map Vc.cells)) := hg
    clear hg HG
    by_cases hlt : k < N
    · have hlti : (k : Int) < N := by omega
      have HVA : Hid (Calls Tryz.prog 113 #[.pointer (some ⟨R, 0, none⟩)] wr fun e w' => e = .returned (.agg (rdV cur).1.cells) ∧ RdB w' R (rdV cur).2 ∧ Turns (· = R) wr w') := val_any R cur wr HD.out
      have HE' : Hid ((vs ++ [(rdV cur).1]) ++ (rdVs (N - (k + 1)) (rdV cur).2).1 = (rdVs N D).1 ∧ (rdVs (N - (k + 1)) (rdV cur).2).2 = (rdVs N D).2) := by
        refine ⟨?_, ?_⟩
        · rw [← HE.out.1, show N - k = (N - (k + 1)) + 1 by omega, List.append_assoc]; rfl
        · rw [← HE.out.2, show N - k = (N - (k + 1)) + 1 by omega]; rfl
      generalize (rdV cur).2 = nxt at HVA HE'
      generalize (rdV cur).1 = c at HVA HE'
      obtain ⟨ty, n, x⟩ := c
      go_wp2_with fail
      refine HVA.out.mono ?_
      rintro e w2 ⟨rfl, hd, ht⟩
      have HD2 : Hid (RdB w2 R nxt) := hd
      have HT2 : Hid (Turns (· = R) w w2) := HT.out.trans ht
      have HG2 : Hid (Got w2 w.heap.size 128 3 (.slice a1 n1 c1) (vs.map Vc.cells)) := HG1.out.turns ht fun c h => by have h : c = R := h; omega
      have hs2 : w.heap.size ≤ w2.heap.size := HT2.out.size
      clear hd ht
      go_wp2_with (at_builtin; refine app_one rfl (.tmp 10) (.tmp 14) rfl Tryz.underlying40 infoVal rfl (by decide) (by decide) w.heap.size _ (vs.map Vc.cells) rfl (HG2.out.on (ch_alloc (Below.refl _ _) _)) w2.heap.size 1 #[.int .i64 ty, .int .i64 n, .string x] rfl (Loc.new _ _ _) rfl (val_one ⟨ty, n, x⟩) (by simp; omega) (by simp; omega) ?_; intro v3 w3 hg3 hb3)
      have HG3 : Hid (Got w3 w.heap.size 128 3 v3 ((vs ++ [(⟨ty, n, x⟩ : Vc)]).map Vc.cells)) := by
        show Got _ _ _ _ _ _
        rw [List.map_append]; exact hg3
      have hb23 : Below w.heap.size w2 w3 := (Below.alloc (Below.refl _ _) hs2 _).trans hb3
      have HD3 : Hid (RdB w3 R nxt) := HD2.out.low hRw hb23
      have HT3 : Hid (Turns (· = R) w w3) := HT2.out.low hb23
      clear hg3 hb3 hb23
      go_round
      case rel => exact ⟨k + 1, vs ++ [⟨ty, n, x⟩], nxt, by omega, by go_num, by simp; omega, HE', HD3, HT3, HG3⟩
      case measure => simp [intOf]; omega
    · have hlti : (N : Int) ≤ k := by omega
      have HF : Hid (vs = (rdVs N D).1 ∧ cur = (rdVs N D).2) := by
        have := HE.out
        rw [show N - k = 0 by omega, rdVs] at this
        show vs = _ ∧ _
        simpa using this
      go_wp2
      go_ret
      exact ⟨_, rfl, by rw [← HF.out.1]; exact HG1.out, by rw [← HF.out.2]; exact HD.out, HT.out⟩

set_option maxRecDepth 100000 in
/-- (*impl.byteReader).words -/
theorem wordsR_any (R : Nat) (l : List UInt8) (w : World) (h : RdB w R l) :
    Calls Tryz.prog 116 #[.pointer (some ⟨R, 0, none⟩)] w fun e w' => ∃ v, e = .returned v ∧ Got w' w.heap.size 9 1 v ((rdW l).1.map strX) ∧ RdB w' R (rdW l).2 ∧ Turns (· = R) w w' := by
  have HM : Hid (Calls Tryz.prog 139 #[.pointer (some ⟨R, 0, none⟩), .func (.func 82) #[] #[]] w fun e w' => ∃ v, e = .returned v ∧ Got w' w.heap.size 9 1 v ((rdW l).1.map strX) ∧ RdB w' R (rdW l).2 ∧ Turns (· = R) w w') := readTexts_any R l w h
  clear h
  generalize rdW l = X at HM ⊢
  go_enter Tryz.func116, Tryz.ntmps116
  go_wp2_with fail
  refine HM.out.mono ?_
  rintro e w1 ⟨v, rfl, hg, hd, ht⟩
  have HG : Hid (Got w1 w.heap.size 9 1 v (X.1.map strX)) := hg
  have HD : Hid (RdB w1 R X.2) := hd
  have HT : Hid (Turns (· = R) w w1) := ht
  clear hg hd ht
  go_wp2
  go_ret
  exact ⟨_, rfl, HG.out, HD.out, HT.out⟩
end Go.Proofs.YtiijahoheajppaaGreat
