/- Shapes in memory, and marks that keep them. The laws' marks on shapes. Shapes that lie in new memory alone. -/
import Derived.Test.YtikccmgpmbnkfaaGreatMarkG
import Derived.Test.YtikccmgpmbnkfaaGreatHeldS
import Derived.Test.YtikccmgpmbnkfaaGreatPke
namespace Go.Proofs.YtikccmgpmbnkfaaGreat
open Go.ChangeShapes Go.WideShapes Go.ChangeAt Go.RowKit

/-- A cell that may have been marked. -/
def kind1 (u v : Value) : Prop := u = v ∨ (∃ a b, u = .int .i64 a ∧ v = .int .i64 b) ∨ (∃ a b, u = .string a ∧ v = .string b) ∨ (∃ a b, u = .bool a ∧ v = .bool b)
theorem kind1.refl (u : Value) : kind1 u u := Or.inl rfl
theorem kind1.trans {u v x : Value} (h : kind1 u v) (k : kind1 v x) : kind1 u x := by
  rcases h with rfl | ⟨a, b, rfl, rfl⟩ | ⟨a, b, rfl, rfl⟩ | ⟨a, b, rfl, rfl⟩
  · exact k
  all_goals
    rcases k with rfl | ⟨c, d, e, rfl⟩ | ⟨c, d, e, rfl⟩ | ⟨c, d, e, rfl⟩
    all_goals first
      | (cases e; done)
      | exact Or.inr (Or.inl ⟨_, _, rfl, rfl⟩)
      | exact Or.inr (Or.inr (Or.inl ⟨_, _, rfl, rfl⟩))
      | exact Or.inr (Or.inr (Or.inr ⟨_, _, rfl, rfl⟩))
theorem kind1.slice {a : Option Addr} {n c : Nat} {v : Value} (h : kind1 (.slice a n c) v) : v = .slice a n c := by
  rcases h with h | ⟨_, _, h, _⟩ | ⟨_, _, h, _⟩ | ⟨_, _, h, _⟩
  · exact h.symm
  all_goals cases h
theorem rowIs_one {w : World} {b : Nat} {T T' : TypeId} {m m' : Nat} {f f' : Nat → Value} (h : w.rowIs b T m f) (k : w.rowIs b T' m' f') : T' = T ∧ m' = m ∧ ∀ i, i < m → f' i = f i := by
  obtain ⟨c, h1, h2, h3⟩ := h
  obtain ⟨c', k1, k2, k3⟩ := k
  rw [h1] at k1
  cases k1
  refine ⟨rfl, by omega, fun i hi => ?_⟩
  have := h3 i hi
  rw [k3 i (by omega)] at this
  exact Option.some.inj this
/-- Blocks of S may have been marked, nothing else has turned. -/
structure Marks (S : Nat → Prop) (w w' : World) : Prop where
  turns : Turns S w w'
  kinds : ∀ b T m f, S b → w.rowIs b T m f → ∃ f', w'.rowIs b T m f' ∧ ∀ i, i < m → kind1 (f i) (f' i)
theorem Marks.refl (S : Nat → Prop) (w : World) : Marks S w w := ⟨Turns.refl _ _, fun _ _ _ f _ h => ⟨f, h, fun _ _ => kind1.refl _⟩⟩
theorem Marks.trans {S : Nat → Prop} {a b c : World} (h : Marks S a b) (k : Marks S b c) : Marks S a c :=
  ⟨h.turns.trans k.turns, fun x T m f hx hr => by
    obtain ⟨f1, h1, h2⟩ := h.kinds x T m f hx hr
    obtain ⟨f2, k1, k2⟩ := k.kinds x T m f1 hx h1
    exact ⟨f2, k1, fun i hi => (h2 i hi).trans (k2 i hi)⟩⟩
theorem Marks.below {S : Nat → Prop} {a b c : World} (h : Marks S a b) (k : Below b.heap.size b c) : Marks S a c :=
  ⟨h.turns.below k, fun x T m f hx hr => by
    obtain ⟨f1, h1, h2⟩ := h.kinds x T m f hx hr
    exact ⟨f1, h1.of_block (k.block x h1.lt), h2⟩⟩
theorem Marks.mono {S S' : Nat → Prop} {a b : World} (h : Marks S a b) (hs : ∀ c, S c → S' c) : Marks S' a b :=
  ⟨h.turns.mono hs, fun x T m f hx hr => by
    by_cases hS : S x
    · exact h.kinds x T m f hS hr
    · exact ⟨f, hr.of_block (h.turns.block x hr.lt hS), fun _ _ => kind1.refl _⟩⟩
/-- One block marked. -/
theorem Marks.one {S : Nat → Prop} {w w' : World} {b : Nat} {T : TypeId} {m : Nat} {f f' : Nat → Value} (hb : S b) (h : Turns (· = b) w w') (hr : w.rowIs b T m f) (hr' : w'.rowIs b T m f') (hk : ∀ i, i < m → kind1 (f i) (f' i)) : Marks S w w' :=
  ⟨h.mono fun c e => e ▸ hb, fun x T' m' g hx hg => by
    by_cases e : x = b
    · subst e
      obtain ⟨rfl, rfl, h3⟩ := rowIs_one hr hg
      exact ⟨f', hr', fun i hi => by rw [h3 i hi]; exact hk i hi⟩
    · exact ⟨g, hg.of_block (h.block x hg.lt e), fun _ _ => kind1.refl _⟩⟩
theorem Marks.set {S : Nat → Prop} {w : World} {b : Nat} {T : TypeId} {m : Nat} {f : Nat → Value} (hb : S b) (hr : w.rowIs b T m f) {j : Nat} {u : Value} (hk : j < m → kind1 (f j) u) : Marks S w (w.setCell ⟨b, j, none⟩ u) :=
  Marks.one hb ((Turns.refl (· = b) w).set (p := ⟨b, j, none⟩) rfl u) hr (hr.set j u) fun i hi => by
    by_cases e : i = j
    · subst e; simpa using hk hi
    · simp only [if_neg e]; exact kind1.refl _

/-- What a cell holds, and what lies behind it. -/
abbrev Shape := World → Value → Prop
def IntS : Shape := fun _ v => ∃ n, v = .int .i64 n
def StrS : Shape := fun _ v => ∃ s, v = .string s
def BoolS : Shape := fun _ v => ∃ b, v = .bool b
/-- A whole block of elements, in S. -/
def RowS (S : Nat → Prop) (T : TypeId) (es : List Shape) : Shape := fun w v => ∃ b n cap f, v = .slice (some ⟨b, 0, none⟩) n cap ∧ S b ∧ n ≤ 1048576 ∧ w.rowIs b T (n * es.length) f ∧ ∀ i, i < n → ∀ j (h : j < es.length), es[j] w (f (i * es.length + j))
/-- Marks keep it. -/
def Stays (S : Nat → Prop) (P : Shape) : Prop := ∀ w w' u u', Marks S w w' → kind1 u u' → P w u → P w' u'
theorem IntS.stays (S : Nat → Prop) : Stays S IntS := fun w w' u u' _ hk ⟨n, e⟩ => by
  subst e
  rcases hk with rfl | ⟨a, b, _, rfl⟩ | ⟨_, _, h, _⟩ | ⟨_, _, h, _⟩
  · exact ⟨n, rfl⟩
  · exact ⟨b, rfl⟩
  all_goals cases h
theorem StrS.stays (S : Nat → Prop) : Stays S StrS := fun w w' u u' _ hk ⟨n, e⟩ => by
  subst e
  rcases hk with rfl | ⟨_, _, h, _⟩ | ⟨a, b, _, rfl⟩ | ⟨_, _, h, _⟩
  · exact ⟨n, rfl⟩
  · cases h
  · exact ⟨b, rfl⟩
  · cases h
theorem BoolS.stays (S : Nat → Prop) : Stays S BoolS := fun w w' u u' _ hk ⟨n, e⟩ => by
  subst e
  rcases hk with rfl | ⟨_, _, h, _⟩ | ⟨_, _, h, _⟩ | ⟨a, b, _, rfl⟩
  · exact ⟨n, rfl⟩
  · cases h
  · cases h
  · exact ⟨b, rfl⟩
theorem RowS.stays {S : Nat → Prop} {T : TypeId} {es : List Shape} (he : ∀ j (h : j < es.length), Stays S es[j]) : Stays S (RowS S T es) := fun w w' u u' hm hk ⟨b, n, cap, f, e, hb, hn, hr, hf⟩ => by
  subst e
  obtain rfl := hk.slice
  obtain ⟨f', hr', hk'⟩ := hm.kinds b T _ f hb hr
  refine ⟨b, n, cap, f', rfl, hb, hn, hr', fun i hi j hj => he j hj w w' _ _ hm (hk' _ ?_) (hf i hi j hj)⟩
  have : (i + 1) * es.length ≤ n * es.length := Nat.mul_le_mul_right _ (by omega)
  rw [Nat.add_mul, Nat.one_mul] at this
  omega
/-- Growing keeps it. -/
def Keeps (P : Shape) : Prop := ∀ w w' u, Below w.heap.size w w' → P w u → P w' u
theorem IntS.keeps : Keeps IntS := fun _ _ _ _ h => h
theorem StrS.keeps : Keeps StrS := fun _ _ _ _ h => h
theorem BoolS.keeps : Keeps BoolS := fun _ _ _ _ h => h
theorem RowS.keeps {S : Nat → Prop} {T : TypeId} {es : List Shape} (he : ∀ j (h : j < es.length), Keeps es[j]) : Keeps (RowS S T es) := fun w w' _ hb ⟨b, n, cap, f, e, hS, hn, hr, hf⟩ =>
  ⟨b, n, cap, f, e, hS, hn, hr.of_block (hb.block b hr.lt), fun i hi j hj => he j hj w w' _ hb (hf i hi j hj)⟩
theorem RowS.mono {S S' : Nat → Prop} {T : TypeId} {es es' : List Shape} (hs : ∀ c, S c → S' c) (hl : es.length = es'.length) (he : ∀ j (h : j < es.length) (h' : j < es'.length) w u, es[j] w u → es'[j] w u) {w : World} {v : Value} (h : RowS S T es w v) : RowS S' T es' w v := by
  obtain ⟨b, n, cap, f, e, hS, hn, hr, hf⟩ := h
  refine ⟨b, n, cap, f, e, hs b hS, hn, by rw [← hl]; exact hr, fun i hi j hj => ?_⟩
  rw [← hl]
  exact he j (by omega) hj _ _ (hf i hi j (by omega))
/-- The shapes of the program's lists. -/
def ValsS (S : Nat → Prop) : Shape := RowS S 128 [IntS, IntS, StrS]
def ColsS (S : Nat → Prop) : Shape := RowS S 131 [StrS, IntS, BoolS, BoolS, IntS, IntS, StrS]
def StrsS (S : Nat → Prop) : Shape := RowS S 9 [StrS]
def RowsS (S : Nat → Prop) : Shape := RowS S 42 [ValsS S]
def TabsS (S : Nat → Prop) : Shape := RowS S 177 [StrS, ColsS S, StrsS S]
theorem ValsS.stays (S : Nat → Prop) : Stays S (ValsS S) := RowS.stays fun j h => by
  match j, h with
  | 0, _ => exact IntS.stays S
  | 1, _ => exact IntS.stays S
  | 2, _ => exact StrS.stays S
theorem ColsS.stays (S : Nat → Prop) : Stays S (ColsS S) := RowS.stays fun j h => by
  match j, h with
  | 0, _ => exact StrS.stays S
  | 1, _ => exact IntS.stays S
  | 2, _ => exact BoolS.stays S
  | 3, _ => exact BoolS.stays S
  | 4, _ => exact IntS.stays S
  | 5, _ => exact IntS.stays S
  | 6, _ => exact StrS.stays S
theorem StrsS.stays (S : Nat → Prop) : Stays S (StrsS S) := RowS.stays fun j h => by
  match j, h with
  | 0, _ => exact StrS.stays S
theorem RowsS.stays (S : Nat → Prop) : Stays S (RowsS S) := RowS.stays fun j h => by
  match j, h with
  | 0, _ => exact ValsS.stays S
theorem TabsS.stays (S : Nat → Prop) : Stays S (TabsS S) := RowS.stays fun j h => by
  match j, h with
  | 0, _ => exact StrS.stays S
  | 1, _ => exact ColsS.stays S
  | 2, _ => exact StrsS.stays S
end Go.Proofs.YtikccmgpmbnkfaaGreat

namespace Go.Proofs.YtikccmgpmbnkfaaGreat
open Go.ChangeShapes Go.WideShapes Go.ChangeAt Go.RowKit

theorem markV_kind {f : Nat → Value} {w : World} {n k : Nat} (hf : ∀ i, i < n → ∀ j (h : j < [IntS, IntS, StrS].length), [IntS, IntS, StrS][j] w (f (i * [IntS, IntS, StrS].length + j))) (i : Nat) (hi : i < n * 3) : kind1 (f i) (if i < n * 3 then markV k i else f i) := by
  rw [if_pos hi]
  have hq : i / 3 < n := Nat.div_lt_of_lt_mul (by omega)
  have hd : i / 3 * 3 + i % 3 = i := by omega
  have hm : i % 3 < 3 := Nat.mod_lt _ (by omega)
  have h := markV_all k (i / 3) _ rfl
  have h0 := hf (i / 3) hq 0 (by decide)
  have h1 := hf (i / 3) hq 1 (by decide)
  have h2 := hf (i / 3) hq 2 (by decide)
  simp only [List.length_cons, List.length_nil, Nat.zero_add, Nat.reduceAdd, List.getElem_cons_zero, List.getElem_cons_succ, Nat.add_zero] at h0 h1 h2
  rcases (by omega : i % 3 = 0 ∨ i % 3 = 1 ∨ i % 3 = 2) with e | e | e
  · have ei : i = i / 3 * 3 := by omega
    obtain ⟨x, hx⟩ := h0
    rw [ei, hx, h.1]
    exact Or.inr (Or.inl ⟨_, _, rfl, rfl⟩)
  · have ei : i = i / 3 * 3 + 1 := by omega
    obtain ⟨x, hx⟩ := h1
    rw [ei, hx, h.2.1]
    exact Or.inr (Or.inl ⟨_, _, rfl, rfl⟩)
  · have ei : i = i / 3 * 3 + 2 := by omega
    obtain ⟨x, hx⟩ := h2
    rw [ei, hx, h.2.2]
    exact Or.inr (Or.inr (Or.inl ⟨_, _, rfl, rfl⟩))
theorem markValS_shape (S : Nat → Prop) (v : Value) (k : Nat) (w : World) (hv : ValsS S w v) (hk : k ≤ 8000000000000000000) :
    Calls Tryz.prog 49 #[v, .int .i64 k] w fun e w' => ∃ k' : Nat, e = .returned (.int .i64 k') ∧ k' ≤ k + 3145728 ∧ Marks S w w' := by
  obtain ⟨b, n, cap, f, rfl, hb, hn, hr, hf⟩ := hv
  refine (markValS_any b n cap (n * 3) _ f k w hr (Nat.le_refl _) hn hk).mono ?_
  rintro e w' ⟨rfl, ht, hr'⟩
  exact ⟨k + n * 3, rfl, by omega, Marks.one hb ht hr hr' (markV_kind hf)⟩
theorem markStringS_shape (S : Nat → Prop) (v : Value) (k : Nat) (w : World) (hv : StrsS S w v) (hk : k ≤ 8000000000000000000) :
    Calls Tryz.prog 76 #[v, .int .i64 k] w fun e w' => ∃ k' : Nat, e = .returned (.int .i64 k') ∧ k' ≤ k + 1048576 ∧ Marks S w w' := by
  obtain ⟨b, n, cap, f, rfl, hb, hn, hr, hf⟩ := hv
  have hr1 : w.rowIs b 9 n f := by simpa using hr
  refine (markStringS_any b n cap n _ f k w hr1 (Nat.le_refl _) hn hk).mono ?_
  rintro e w' ⟨rfl, ht, hr'⟩
  refine ⟨k + n, rfl, by omega, Marks.one hb ht hr1 hr' fun i hi => ?_⟩
  have h := hf i hi 0 (by decide)
  simp only [List.length_cons, List.length_nil, Nat.zero_add, Nat.mul_one, Nat.add_zero, List.getElem_cons_zero] at h
  obtain ⟨x, hx⟩ := h
  rw [if_pos hi, hx]
  exact Or.inr (Or.inr (Or.inl ⟨_, _, rfl, rfl⟩))
set_option maxHeartbeats 1000000 in
theorem markC_kind {f : Nat → Value} {w : World} {n k : Nat} (hf : ∀ i, i < n → ∀ j (h : j < [StrS, IntS, BoolS, BoolS, IntS, IntS, StrS].length), [StrS, IntS, BoolS, BoolS, IntS, IntS, StrS][j] w (f (i * [StrS, IntS, BoolS, BoolS, IntS, IntS, StrS].length + j))) (i : Nat) (hi : i < n * 7) : kind1 (f i) (if i < n * 7 then markC k i else f i) := by
  rw [if_pos hi]
  have hq : i / 7 < n := Nat.div_lt_of_lt_mul (by omega)
  have h := markC_all k (i / 7) _ rfl
  have h0 := hf (i / 7) hq 0 (by decide)
  have h1 := hf (i / 7) hq 1 (by decide)
  have h2 := hf (i / 7) hq 2 (by decide)
  have h3 := hf (i / 7) hq 3 (by decide)
  have h4 := hf (i / 7) hq 4 (by decide)
  have h5 := hf (i / 7) hq 5 (by decide)
  have h6 := hf (i / 7) hq 6 (by decide)
  simp only [List.length_cons, List.length_nil, Nat.zero_add, Nat.reduceAdd, List.getElem_cons_zero, List.getElem_cons_succ, Nat.add_zero] at h0 h1 h2 h3 h4 h5 h6
  rcases (by omega : i % 7 = 0 ∨ i % 7 = 1 ∨ i % 7 = 2 ∨ i % 7 = 3 ∨ i % 7 = 4 ∨ i % 7 = 5 ∨ i % 7 = 6) with e | e | e | e | e | e | e
  · have ei : i = i / 7 * 7 := by omega
    obtain ⟨x, hx⟩ := h0
    rw [ei, hx, h.1]
    exact Or.inr (Or.inr (Or.inl ⟨_, _, rfl, rfl⟩))
  · have ei : i = i / 7 * 7 + 1 := by omega
    obtain ⟨x, hx⟩ := h1
    rw [ei, hx, h.2.1]
    exact Or.inr (Or.inl ⟨_, _, rfl, rfl⟩)
  · have ei : i = i / 7 * 7 + 2 := by omega
    obtain ⟨x, hx⟩ := h2
    rw [ei, hx, h.2.2.1]
    exact Or.inr (Or.inr (Or.inr ⟨_, _, rfl, rfl⟩))
  · have ei : i = i / 7 * 7 + 3 := by omega
    obtain ⟨x, hx⟩ := h3
    rw [ei, hx, h.2.2.2.1]
    exact Or.inr (Or.inr (Or.inr ⟨_, _, rfl, rfl⟩))
  · have ei : i = i / 7 * 7 + 4 := by omega
    obtain ⟨x, hx⟩ := h4
    rw [ei, hx, h.2.2.2.2.1]
    exact Or.inr (Or.inl ⟨_, _, rfl, rfl⟩)
  · have ei : i = i / 7 * 7 + 5 := by omega
    obtain ⟨x, hx⟩ := h5
    rw [ei, hx, h.2.2.2.2.2.1]
    exact Or.inr (Or.inl ⟨_, _, rfl, rfl⟩)
  · have ei : i = i / 7 * 7 + 6 := by omega
    obtain ⟨x, hx⟩ := h6
    rw [ei, hx, h.2.2.2.2.2.2]
    exact Or.inr (Or.inr (Or.inl ⟨_, _, rfl, rfl⟩))
theorem markColS_shape (S : Nat → Prop) (v : Value) (k : Nat) (w : World) (hv : ColsS S w v) (hk : k ≤ 8000000000000000000) :
    Calls Tryz.prog 75 #[v, .int .i64 k] w fun e w' => ∃ k' : Nat, e = .returned (.int .i64 k') ∧ k' ≤ k + 7340032 ∧ Marks S w w' := by
  obtain ⟨b, n, cap, f, rfl, hb, hn, hr, hf⟩ := hv
  refine (markColS_any b n cap (n * 7) _ f k w hr (Nat.le_refl _) hn hk).mono ?_
  rintro e w' ⟨rfl, ht, hr'⟩
  exact ⟨k + n * 7, rfl, by omega, Marks.one hb ht hr hr' (markC_kind hf)⟩

/-- The i-th element of a list of lists. -/
theorem RowS.inner {S : Nat → Prop} {T : TypeId} {P : Shape} {w : World} {b n cap : Nat} (h : RowS S T [P] w (.slice (some ⟨b, 0, none⟩) n cap)) (i : Nat) (hi : i < n) : ∃ u, w.cell? ⟨b, i, none⟩ = some u ∧ P w u := by
  obtain ⟨b', n', cap', f, e, hb, hn, hr, hf⟩ := h
  cases e
  have h0 := hf i hi 0 (by simp)
  simp only [List.length_cons, List.length_nil, Nat.zero_add, Nat.mul_one, Nat.add_zero, List.getElem_cons_zero] at h0 hr
  exact ⟨f i, hr.cell hi, h0⟩
theorem RowS.lit {S : Nat → Prop} {T : TypeId} {es : List Shape} {w : World} {v : Value} (h : RowS S T es w v) : ∃ b n cap, v = .slice (some ⟨b, 0, none⟩) n cap ∧ n ≤ 1048576 ∧ RowS S T es w (.slice (some ⟨b, 0, none⟩) n cap) := by
  obtain ⟨b, n, cap, f, rfl, hb, hn, h⟩ := h
  exact ⟨b, n, cap, rfl, hn, b, n, cap, f, rfl, hb, hn, h⟩

/-- A table among others. -/
theorem TabsS.tab {S : Nat → Prop} {w : World} {b n cap : Nat} (h : TabsS S w (.slice (some ⟨b, 0, none⟩) n cap)) (i : Nat) (hi : i < n) : ∃ f s b1 n1 c1 b2 n2 c2, S b ∧ w.rowIs b 177 (n * 3) f ∧ f (i * 3) = .string s ∧ w.cell? ⟨b, i * 3, none⟩ = some (.string s) ∧ w.cell? ⟨b, i * 3 + 1, none⟩ = some (.slice (some ⟨b1, 0, none⟩) n1 c1) ∧ w.cell? ⟨b, i * 3 + 2, none⟩ = some (.slice (some ⟨b2, 0, none⟩) n2 c2) ∧ w.frozen? ⟨b, i * 3, none⟩ = false ∧ ColsS S w (.slice (some ⟨b1, 0, none⟩) n1 c1) ∧ StrsS S w (.slice (some ⟨b2, 0, none⟩) n2 c2) := by
  obtain ⟨b', n', cap', f, e, hb, hn, hr, hf⟩ := h
  cases e
  have h0 := hf i hi 0 (by simp)
  have h1 := hf i hi 1 (by simp)
  have h2 := hf i hi 2 (by simp)
  simp only [List.length_cons, List.length_nil, Nat.zero_add, Nat.reduceAdd, List.getElem_cons_zero, List.getElem_cons_succ, Nat.add_zero] at h0 h1 h2 hr
  obtain ⟨s, hs⟩ := h0
  obtain ⟨b1, n1, c1, e1, _, h1⟩ := h1.lit
  obtain ⟨b2, n2, c2, e2, _, h2⟩ := h2.lit
  exact ⟨f, s, b1, n1, c1, b2, n2, c2, hb, hr, hs, by rw [← hs]; exact hr.cell (by omega), by rw [← e1]; exact hr.cell (by omega), by rw [← e2]; exact hr.cell (by omega), hr.frozen _, h1, h2⟩

end Go.Proofs.YtikccmgpmbnkfaaGreat

namespace Go.Proofs.YtikccmgpmbnkfaaGreat
open Go.ChangeShapes Go.WideShapes Go.ChangeAt Go.RowKit

/-- It hangs on blocks of S alone. -/
def Holds (S : Nat → Prop) (P : Shape) : Prop := ∀ w w' u, (∀ c, S c → c < w.heap.size → w'.heap[c]? = w.heap[c]?) → P w u → P w' u
theorem IntS.holds (S : Nat → Prop) : Holds S IntS := fun _ _ _ _ h => h
theorem StrS.holds (S : Nat → Prop) : Holds S StrS := fun _ _ _ _ h => h
theorem BoolS.holds (S : Nat → Prop) : Holds S BoolS := fun _ _ _ _ h => h
theorem RowS.holds {S : Nat → Prop} {T : TypeId} {es : List Shape} (he : ∀ j (h : j < es.length), Holds S es[j]) : Holds S (RowS S T es) := fun w w' _ hb ⟨b, n, cap, f, e, hS, hn, hr, hf⟩ =>
  ⟨b, n, cap, f, e, hS, hn, hr.of_block (hb b hS hr.lt), fun i hi j hj => he j hj w w' _ hb (hf i hi j hj)⟩
/-- A shape for each set of blocks. -/
structure Good (P : (Nat → Prop) → Shape) : Prop where
  holds : ∀ S, Holds S (P S)
  mono : ∀ S S' w u, (∀ c, S c → S' c) → P S w u → P S' w u
theorem ValsS.good : Good ValsS := ⟨fun S => RowS.holds fun j h => by
    match j, h with
    | 0, _ => exact IntS.holds S
    | 1, _ => exact IntS.holds S
    | 2, _ => exact StrS.holds S, fun _ _ _ _ hs h => RowS.mono hs rfl (fun _ _ _ _ _ h => h) h⟩
theorem ColsS.good : Good ColsS := ⟨fun S => RowS.holds fun j h => by
    match j, h with
    | 0, _ => exact StrS.holds S
    | 1, _ => exact IntS.holds S
    | 2, _ => exact BoolS.holds S
    | 3, _ => exact BoolS.holds S
    | 4, _ => exact IntS.holds S
    | 5, _ => exact IntS.holds S
    | 6, _ => exact StrS.holds S, fun _ _ _ _ hs h => RowS.mono hs rfl (fun _ _ _ _ _ h => h) h⟩
theorem StrsS.good : Good StrsS := ⟨fun S => RowS.holds fun j h => by
    match j, h with
    | 0, _ => exact StrS.holds S, fun _ _ _ _ hs h => RowS.mono hs rfl (fun _ _ _ _ _ h => h) h⟩
theorem one_good {P : (Nat → Prop) → Shape} (hP : Good P) (T : TypeId) : Good (fun S => RowS S T [P S]) := ⟨fun S => RowS.holds fun j h => by
    match j, h with
    | 0, _ => exact hP.holds S, fun S S' _ _ hs h => RowS.mono (es := [P S]) (es' := [P S']) hs rfl (fun j hj hj' w u hu => by
      match j, hj with
      | 0, _ => exact hP.mono S S' w u hs hu) h⟩
theorem RowsS.good : Good RowsS := one_good ValsS.good _
theorem TabsS.good : Good TabsS := ⟨fun S => RowS.holds fun j h => by
    match j, h with
    | 0, _ => exact StrS.holds S
    | 1, _ => exact ColsS.good.holds S
    | 2, _ => exact StrsS.good.holds S, fun S S' _ _ hs h => RowS.mono (es := [StrS, ColsS S, StrsS S]) (es' := [StrS, ColsS S', StrsS S']) hs rfl (fun j hj hj' w u hu => by
      match j, hj with
      | 0, _ => exact hu
      | 1, _ => exact ColsS.good.mono S S' w u hs hu
      | 2, _ => exact StrsS.good.mono S S' w u hs hu) h⟩
/-- It lies in blocks from B on, that are there. -/
def New (P : (Nat → Prop) → Shape) (B : Nat) (w : World) (v : Value) : Prop := P (fun c => B ≤ c ∧ c < w.heap.size) w v
theorem New.at {P : (Nat → Prop) → Shape} (hP : Good P) {B : Nat} {w w' : World} {v : Value} (h : New P B w v) (k : Apart B w w') : New P B w' v :=
  hP.mono _ _ _ _ (fun _ hc => ⟨hc.1, Nat.lt_of_lt_of_le hc.2 k.1⟩) (hP.holds _ w w' v (fun c hc hl => k.2 c hc.1 hl) h)
theorem New.on {P : (Nat → Prop) → Shape} (hP : Good P) {B : Nat} {w w' : World} {v : Value} (h : New P B w v) (k : Below w.heap.size w w') : New P B w' v := h.at hP (Apart.of_below k)
theorem New.set {P : (Nat → Prop) → Shape} (hP : Good P) {B : Nat} {w : World} {v : Value} (h : New P B w v) {p : Addr} (hp : p.block < B) (u : Value) : New P B (w.setCell p u) v := h.at hP ((Apart.refl _ _).set hp u)
theorem New.mono {P : (Nat → Prop) → Shape} (hP : Good P) {B B' : Nat} {w : World} {v : Value} (h : New P B w v) (hB : B' ≤ B) : New P B' w v := hP.mono _ _ _ _ (fun _ hc => ⟨Nat.le_trans hB hc.1, hc.2⟩) h
theorem Fill.valsN {w : World} {B : Nat} {vs : List Vc} (h : Fill w B 128 3 vs.length (vs.map Vc.cells)) (hl : vs.length ≤ 1048576) : New ValsS B w (.slice (some ⟨B, 0, none⟩) vs.length vs.length) := by
  have hlt := h.lt
  obtain ⟨h0, h1, f, hr, hf⟩ := h
  refine ⟨B, vs.length, vs.length, f, rfl, ⟨Nat.le_refl _, hlt⟩, hl, hr, fun i hi j hj => ?_⟩
  match j, hj with
  | 0, _ => have e := hf i (by simpa using hi) 0 (by omega); simp at e; exact ⟨_, e⟩
  | 1, _ => have e := hf i (by simpa using hi) 1 (by omega); simp at e; exact ⟨_, e⟩
  | 2, _ => have e := hf i (by simpa using hi) 2 (by omega); simp at e; exact ⟨_, e⟩
theorem Fill.colsN {w : World} {B : Nat} {vs : List Cl} (h : Fill w B 131 7 vs.length (vs.map Cl.cells)) (hl : vs.length ≤ 1048576) : New ColsS B w (.slice (some ⟨B, 0, none⟩) vs.length vs.length) := by
  have hlt := h.lt
  obtain ⟨h0, h1, f, hr, hf⟩ := h
  refine ⟨B, vs.length, vs.length, f, rfl, ⟨Nat.le_refl _, hlt⟩, hl, hr, fun i hi j hj => ?_⟩
  match j, hj with
  | 0, _ => have e := hf i (by simpa using hi) 0 (by omega); simp at e; exact ⟨_, e⟩
  | 1, _ => have e := hf i (by simpa using hi) 1 (by omega); simp at e; exact ⟨_, e⟩
  | 2, _ => have e := hf i (by simpa using hi) 2 (by omega); simp at e; exact ⟨_, e⟩
  | 3, _ => have e := hf i (by simpa using hi) 3 (by omega); simp at e; exact ⟨_, e⟩
  | 4, _ => have e := hf i (by simpa using hi) 4 (by omega); simp at e; exact ⟨_, e⟩
  | 5, _ => have e := hf i (by simpa using hi) 5 (by omega); simp at e; exact ⟨_, e⟩
  | 6, _ => have e := hf i (by simpa using hi) 6 (by omega); simp at e; exact ⟨_, e⟩
theorem Fill.strsN {w : World} {B : Nat} {vs : List ByteArray} (h : Fill w B 9 1 vs.length (vs.map strX)) (hl : vs.length ≤ 1048576) : New StrsS B w (.slice (some ⟨B, 0, none⟩) vs.length vs.length) := by
  have hlt := h.lt
  obtain ⟨h0, h1, f, hr, hf⟩ := h
  refine ⟨B, vs.length, vs.length, f, rfl, ⟨Nat.le_refl _, hlt⟩, hl, hr, fun i hi j hj => ?_⟩
  match j, hj with
  | 0, _ => have e := hf i (by simpa using hi) 0 (by omega); simp at e; exact ⟨_, by simpa using e⟩
/-- Elements of one cell laid so far, each with memory of its own. -/
def Nfill (P : (Nat → Prop) → Shape) (w : World) (B : Nat) (T : TypeId) (n k : Nat) : Prop := ∃ f, w.rowIs B T n f ∧ ∀ i, i < k → New P (B + 1) w (f i)
theorem Nfill.on {P : (Nat → Prop) → Shape} (hP : Good P) {w w' : World} {B : Nat} {T : TypeId} {n k : Nat} (h : Nfill P w B T n k) (b : Below w.heap.size w w') : Nfill P w' B T n k := by
  obtain ⟨f, hr, hf⟩ := h
  exact ⟨f, hr.of_block (b.block B hr.lt), fun i hi => (hf i hi).on hP b⟩
theorem Nfill.put {P : (Nat → Prop) → Shape} (hP : Good P) {w : World} {B : Nat} {T : TypeId} {n k : Nat} (h : Nfill P w B T n k) {y : Value} (hy : New P (B + 1) w y) : Nfill P (w.setCell ⟨B, k, none⟩ y) B T n (k + 1) := by
  obtain ⟨f, hr, hf⟩ := h
  refine ⟨_, hr.set k y, fun i hi => ?_⟩
  by_cases e : i = k
  · subst e; simp only [if_true]; exact hy.set hP (by simp) _
  · simp only [if_neg e]; exact (hf i (by omega)).set hP (by simp) _
theorem Nfill.done {P : (Nat → Prop) → Shape} (hP : Good P) {w : World} {B : Nat} {T : TypeId} {n : Nat} (h : Nfill P w B T n n) (hn : n ≤ 1048576) : New (fun S => RowS S T [P S]) B w (.slice (some ⟨B, 0, none⟩) n n) := by
  obtain ⟨f, hr, hf⟩ := h
  refine ⟨B, n, n, f, rfl, ⟨Nat.le_refl _, hr.lt⟩, hn, by simpa using hr, fun i hi j hj => ?_⟩
  match j, hj with
  | 0, _ =>
    have h0 : New P B w (f i) := (hf i hi).mono hP (by omega)
    simpa using (show P (fun c => B ≤ c ∧ c < w.heap.size) w (f i) from h0)
end Go.Proofs.YtikccmgpmbnkfaaGreat
