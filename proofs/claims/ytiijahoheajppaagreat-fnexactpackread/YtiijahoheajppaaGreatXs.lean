/- Shapes in memory, and marks that keep them. The laws' marks on shapes. Shapes that lie in new memory alone. The laws' copies with their shape: changes. The laws' copies with their shape: statements. -/
import Derived.Test.YtiijahoheajppaaGreatMarkG
import Derived.Test.YtiijahoheajppaaGreatHeldS
import Derived.Test.YtiijahoheajppaaGreatAl
import Derived.Test.YtiijahoheajppaaGreatSt
import Derived.Test.YtiijahoheajppaaGreatCt
namespace Go.Proofs.YtiijahoheajppaaGreat
open Go.ChangeShapes Go.WideShapes Go.ChangeAt Go.RowKit

/-- A cell that may have been marked. -/
def kind1 (u v : Value) : Prop := u = v ∨ (∃ a b, u = .int .i64 a ∧ v = .int .i64 b) ∨ (∃ a b, u = .string a ∧ v = .string b) ∨ (∃ a b, u = .bool a ∧ v = .bool b)
theorem kind1.refl (u : Value) : kind1 u u := Or.inl rfl
theorem kind1.trans {u v x : Value} (h : kind1 u v) (k : kind1 v x) : kind1 u x := by
  rcases h with rfl | ⟨a, b, rfl, rfl⟩ | ⟨a, b, rfl, rfl⟩ | ⟨a, b, rfl, rfl⟩
  · exact k
  all_goals
    rcases k with rfl | ⟨c, d, e, rfl⟩ | ⟨c, d, e, rfl⟩ | ⟨c, d, e, rfl⟩
    all_goals first
      | (cases e; done)
      | exact Or.inr (Or.inl ⟨_, _, rfl, rfl⟩)
      | exact Or.inr (Or.inr (Or.inl ⟨_, _, rfl, rfl⟩))
      | exact Or.inr (Or.inr (Or.inr ⟨_, _, rfl, rfl⟩))
theorem kind1.slice {a : Option Addr} {n c : Nat} {v : Value} (h : kind1 (.slice a n c) v) : v = .slice a n c := by
  rcases h with h | ⟨_, _, h, _⟩ | ⟨_, _, h, _⟩ | ⟨_, _, h, _⟩
  · exact h.symm
  all_goals cases h
theorem rowIs_one {w : World} {b : Nat} {T T' : TypeId} {m m' : Nat} {f f' : Nat → Value} (h : w.rowIs b T m f) (k : w.rowIs b T' m' f') : T' = T ∧ m' = m ∧ ∀ i, i < m → f' i = f i := by
  obtain ⟨c, h1, h2, h3⟩ := h
  obtain ⟨c', k1, k2, k3⟩ := k
  rw [h1] at k1
  cases k1
  refine ⟨rfl, by omega, fun i hi => ?_⟩
  have := h3 i hi
  rw [k3 i (by omega)] at this
  exact Option.some.inj this
/-- Blocks of S may have been marked, nothing else has turned. -/
structure Marks (S : Nat → Prop) (w w' : World) : Prop where
  turns : Turns S w w'
  kinds : ∀ b T m f, S b → w.rowIs b T m f → ∃ f', w'.rowIs b T m f' ∧ ∀ i, i < m → kind1 (f i) (f' i)
theorem Marks.refl (S : Nat → Prop) (w : World) : Marks S w w := ⟨Turns.refl _ _, fun _ _ _ f _ h => ⟨f, h, fun _ _ => kind1.refl _⟩⟩
theorem Marks.trans {S : Nat → Prop} {a b c : World} (h : Marks S a b) (k : Marks S b c) : Marks S a c :=
  ⟨h.turns.trans k.turns, fun x T m f hx hr => by
    obtain ⟨f1, h1, h2⟩ := h.kinds x T m f hx hr
    obtain ⟨f2, k1, k2⟩ := k.kinds x T m f1 hx h1
    exact ⟨f2, k1, fun i hi => (h2 i hi).trans (k2 i hi)⟩⟩
theorem Marks.below {S : Nat → Prop} {a b c : World} (h : Marks S a b) (k : Below b.heap.size b c) : Marks S a c :=
  ⟨h.turns.below k, fun x T m f hx hr => by
    obtain ⟨f1, h1, h2⟩ := h.kinds x T m f hx hr
    exact ⟨f1, h1.of_block (k.block x h1.lt), h2⟩⟩
theorem Marks.mono {S S' : Nat → Prop} {a b : World} (h : Marks S a b) (hs : ∀ c, S c → S' c) : Marks S' a b :=
  ⟨h.turns.mono hs, fun x T m f hx hr => by
    by_cases hS : S x
    · exact h.kinds x T m f hS hr
    · exact ⟨f, hr.of_block (h.turns.block x hr.lt hS), fun _ _ => kind1.refl _⟩⟩
/-- One block marked. -/
theorem Marks.one {S : Nat → Prop} {w w' : World} {b : Nat} {T : TypeId} {m : Nat} {f f' : Nat → Value} (hb : S b) (h : Turns (· = b) w w') (hr : w.rowIs b T m f) (hr' : w'.rowIs b T m f') (hk : ∀ i, i < m → kind1 (f i) (f' i)) : Marks S w w' :=
  ⟨h.mono fun c e => e ▸ hb, fun x T' m' g hx hg => by
    by_cases e : x = b
    · subst e
      obtain ⟨rfl, rfl, h3⟩ := rowIs_one hr hg
      exact ⟨f', hr', fun i hi => by rw [h3 i hi]; exact hk i hi⟩
    · exact ⟨g, hg.of_block (h.block x hg.lt e), fun _ _ => kind1.refl _⟩⟩
theorem Marks.set {S : Nat → Prop} {w : World} {b : Nat} {T : TypeId} {m : Nat} {f : Nat → Value} (hb : S b) (hr : w.rowIs b T m f) {j : Nat} {u : Value} (hk : j < m → kind1 (f j) u) : Marks S w (w.setCell ⟨b, j, none⟩ u) :=
  Marks.one hb ((Turns.refl (· = b) w).set (p := ⟨b, j, none⟩) rfl u) hr (hr.set j u) fun i hi => by
    by_cases e : i = j
    · subst e; simpa using hk hi
    · simp only [if_neg e]; exact kind1.refl _

/-- What a cell holds, and what lies behind it. -/
abbrev Shape := World → Value → Prop
def IntS : Shape := fun _ v => ∃ n, v = .int .i64 n
def StrS : Shape := fun _ v => ∃ s, v = .string s
def BoolS : Shape := fun _ v => ∃ b, v = .bool b
/-- A whole block of elements, in S. -/
def RowS (S : Nat → Prop) (T : TypeId) (es : List Shape) : Shape := fun w v => ∃ b n cap f, v = .slice (some ⟨b, 0, none⟩) n cap ∧ S b ∧ n ≤ 1048576 ∧ w.rowIs b T (n * es.length) f ∧ ∀ i, i < n → ∀ j (h : j < es.length), es[j] w (f (i * es.length + j))
/-- Marks keep it. -/
def Stays (S : Nat → Prop) (P : Shape) : Prop := ∀ w w' u u', Marks S w w' → kind1 u u' → P w u → P w' u'
theorem IntS.stays (S : Nat → Prop) : Stays S IntS := fun w w' u u' _ hk ⟨n, e⟩ => by
  subst e
  rcases hk with rfl | ⟨a, b, _, rfl⟩ | ⟨_, _, h, _⟩ | ⟨_, _, h, _⟩
  · exact ⟨n, rfl⟩
  · exact ⟨b, rfl⟩
  all_goals cases h
theorem StrS.stays (S : Nat → Prop) : Stays S StrS := fun w w' u u' _ hk ⟨n, e⟩ => by
  subst e
  rcases hk with rfl | ⟨_, _, h, _⟩ | ⟨a, b, _, rfl⟩ | ⟨_, _, h, _⟩
  · exact ⟨n, rfl⟩
  · cases h
  · exact ⟨b, rfl⟩
  · cases h
theorem BoolS.stays (S : Nat → Prop) : Stays S BoolS := fun w w' u u' _ hk ⟨n, e⟩ => by
  subst e
  rcases hk with rfl | ⟨_, _, h, _⟩ | ⟨_, _, h, _⟩ | ⟨a, b, _, rfl⟩
  · exact ⟨n, rfl⟩
  · cases h
  · cases h
  · exact ⟨b, rfl⟩
theorem RowS.stays {S : Nat → Prop} {T : TypeId} {es : List Shape} (he : ∀ j (h : j < es.length), Stays S es[j]) : Stays S (RowS S T es) := fun w w' u u' hm hk ⟨b, n, cap, f, e, hb, hn, hr, hf⟩ => by
  subst e
  obtain rfl := hk.slice
  obtain ⟨f', hr', hk'⟩ := hm.kinds b T _ f hb hr
  refine ⟨b, n, cap, f', rfl, hb, hn, hr', fun i hi j hj => he j hj w w' _ _ hm (hk' _ ?_) (hf i hi j hj)⟩
  have : (i + 1) * es.length ≤ n * es.length := Nat.mul_le_mul_right _ (by omega)
  rw [Nat.add_mul, Nat.one_mul] at this
  omega
/-- Growing keeps it. -/
def Keeps (P : Shape) : Prop := ∀ w w' u, Below w.heap.size w w' → P w u → P w' u
theorem IntS.keeps : Keeps IntS := fun _ _ _ _ h => h
theorem StrS.keeps : Keeps StrS := fun _ _ _ _ h => h
theorem BoolS.keeps : Keeps BoolS := fun _ _ _ _ h => h
theorem RowS.keeps {S : Nat → Prop} {T : TypeId} {es : List Shape} (he : ∀ j (h : j < es.length), Keeps es[j]) : Keeps (RowS S T es) := fun w w' _ hb ⟨b, n, cap, f, e, hS, hn, hr, hf⟩ =>
  ⟨b, n, cap, f, e, hS, hn, hr.of_block (hb.block b hr.lt), fun i hi j hj => he j hj w w' _ hb (hf i hi j hj)⟩
theorem RowS.mono {S S' : Nat → Prop} {T : TypeId} {es es' : List Shape} (hs : ∀ c, S c → S' c) (hl : es.length = es'.length) (he : ∀ j (h : j < es.length) (h' : j < es'.length) w u, es[j] w u → es'[j] w u) {w : World} {v : Value} (h : RowS S T es w v) : RowS S' T es' w v := by
  obtain ⟨b, n, cap, f, e, hS, hn, hr, hf⟩ := h
  refine ⟨b, n, cap, f, e, hs b hS, hn, by rw [← hl]; exact hr, fun i hi j hj => ?_⟩
  rw [← hl]
  exact he j (by omega) hj _ _ (hf i hi j (by omega))
/-- The shapes of the program's lists. -/
def ValsS (S : Nat → Prop) : Shape := RowS S 128 [IntS, IntS, StrS]
def ColsS (S : Nat → Prop) : Shape := RowS S 131 [StrS, IntS, BoolS, BoolS, IntS, IntS, StrS]
def StrsS (S : Nat → Prop) : Shape := RowS S 9 [StrS]
def RowsS (S : Nat → Prop) : Shape := RowS S 42 [ValsS S]
def TabsS (S : Nat → Prop) : Shape := RowS S 177 [StrS, ColsS S, StrsS S]
theorem ValsS.stays (S : Nat → Prop) : Stays S (ValsS S) := RowS.stays fun j h => by
  match j, h with
  | 0, _ => exact IntS.stays S
  | 1, _ => exact IntS.stays S
  | 2, _ => exact StrS.stays S
theorem ColsS.stays (S : Nat → Prop) : Stays S (ColsS S) := RowS.stays fun j h => by
  match j, h with
  | 0, _ => exact StrS.stays S
  | 1, _ => exact IntS.stays S
  | 2, _ => exact BoolS.stays S
  | 3, _ => exact BoolS.stays S
  | 4, _ => exact IntS.stays S
  | 5, _ => exact IntS.stays S
  | 6, _ => exact StrS.stays S
theorem StrsS.stays (S : Nat → Prop) : Stays S (StrsS S) := RowS.stays fun j h => by
  match j, h with
  | 0, _ => exact StrS.stays S
theorem RowsS.stays (S : Nat → Prop) : Stays S (RowsS S) := RowS.stays fun j h => by
  match j, h with
  | 0, _ => exact ValsS.stays S
theorem TabsS.stays (S : Nat → Prop) : Stays S (TabsS S) := RowS.stays fun j h => by
  match j, h with
  | 0, _ => exact StrS.stays S
  | 1, _ => exact ColsS.stays S
  | 2, _ => exact StrsS.stays S
end Go.Proofs.YtiijahoheajppaaGreat

namespace Go.Proofs.YtiijahoheajppaaGreat
open Go.ChangeShapes Go.WideShapes Go.ChangeAt Go.RowKit

theorem markV_kind {f : Nat → Value} {w : World} {n k : Nat} (hf : ∀ i, i < n → ∀ j (h : j < [IntS, IntS, StrS].length), [IntS, IntS, StrS][j] w (f (i * [IntS, IntS, StrS].length + j))) (i : Nat) (hi : i < n * 3) : kind1 (f i) (if i < n * 3 then markV k i else f i) := by
  rw [if_pos hi]
  have hq : i / 3 < n := Nat.div_lt_of_lt_mul (by omega)
  have hd : i / 3 * 3 + i % 3 = i := by omega
  have hm : i % 3 < 3 := Nat.mod_lt _ (by omega)
  have h := markV_all k (i / 3) _ rfl
  have h0 := hf (i / 3) hq 0 (by decide)
  have h1 := hf (i / 3) hq 1 (by decide)
  have h2 := hf (i / 3) hq 2 (by decide)
  simp only [List.length_cons, List.length_nil, Nat.zero_add, Nat.reduceAdd, List.getElem_cons_zero, List.getElem_cons_succ, Nat.add_zero] at h0 h1 h2
  rcases (by omega : i % 3 = 0 ∨ i % 3 = 1 ∨ i % 3 = 2) with e | e | e
  · have ei : i = i / 3 * 3 := by omega
    obtain ⟨x, hx⟩ := h0
    rw [ei, hx, h.1]
    exact Or.inr (Or.inl ⟨_, _, rfl, rfl⟩)
  · have ei : i = i / 3 * 3 + 1 := by omega
    obtain ⟨x, hx⟩ := h1
    rw [ei, hx, h.2.1]
    exact Or.inr (Or.inl ⟨_, _, rfl, rfl⟩)
  · have ei : i = i / 3 * 3 + 2 := by omega
    obtain ⟨x, hx⟩ := h2
    rw [ei, hx, h.2.2]
    exact Or.inr (Or.inr (Or.inl ⟨_, _, rfl, rfl⟩))
theorem markValS_shape (S : Nat → Prop) (v : Value) (k : Nat) (w : World) (hv : ValsS S w v) (hk : k ≤ 8000000000000000000) :
    Calls Tryz.prog 49 #[v, .int .i64 k] w fun e w' => ∃ k' : Nat, e = .returned (.int .i64 k') ∧ k' ≤ k + 3145728 ∧ Marks S w w' := by
  obtain ⟨b, n, cap, f, rfl, hb, hn, hr, hf⟩ := hv
  refine (markValS_any b n cap (n * 3) _ f k w hr (Nat.le_refl _) hn hk).mono ?_
  rintro e w' ⟨rfl, ht, hr'⟩
  exact ⟨k + n * 3, rfl, by omega, Marks.one hb ht hr hr' (markV_kind hf)⟩
theorem markStringS_shape (S : Nat → Prop) (v : Value) (k : Nat) (w : World) (hv : StrsS S w v) (hk : k ≤ 8000000000000000000) :
    Calls Tryz.prog 76 #[v, .int .i64 k] w fun e w' => ∃ k' : Nat, e = .returned (.int .i64 k') ∧ k' ≤ k + 1048576 ∧ Marks S w w' := by
  obtain ⟨b, n, cap, f, rfl, hb, hn, hr, hf⟩ := hv
  have hr1 : w.rowIs b 9 n f := by simpa using hr
  refine (markStringS_any b n cap n _ f k w hr1 (Nat.le_refl _) hn hk).mono ?_
  rintro e w' ⟨rfl, ht, hr'⟩
  refine ⟨k + n, rfl, by omega, Marks.one hb ht hr1 hr' fun i hi => ?_⟩
  have h := hf i hi 0 (by decide)
  simp only [List.length_cons, List.length_nil, Nat.zero_add, Nat.mul_one, Nat.add_zero, List.getElem_cons_zero] at h
  obtain ⟨x, hx⟩ := h
  rw [if_pos hi, hx]
  exact Or.inr (Or.inr (Or.inl ⟨_, _, rfl, rfl⟩))
set_option maxHeartbeats 1000000 in
theorem markC_kind {f : Nat → Value} {w : World} {n k : Nat} (hf : ∀ i, i < n → ∀ j (h : j < [StrS, IntS, BoolS, BoolS, IntS, IntS, StrS].length), [StrS, IntS, BoolS, BoolS, IntS, IntS, StrS][j] w (f (i * [StrS, IntS, BoolS, BoolS, IntS, IntS, StrS].length + j))) (i : Nat) (hi : i < n * 7) : kind1 (f i) (if i < n * 7 then markC k i else f i) := by
  rw [if_pos hi]
  have hq : i / 7 < n := Nat.div_lt_of_lt_mul (by omega)
  have h := markC_all k (i / 7) _ rfl
  have h0 := hf (i / 7) hq 0 (by decide)
  have h1 := hf (i / 7) hq 1 (by decide)
  have h2 := hf (i / 7) hq 2 (by decide)
  have h3 := hf (i / 7) hq 3 (by decide)
  have h4 := hf (i / 7) hq 4 (by decide)
  have h5 := hf (i / 7) hq 5 (by decide)
  have h6 := hf (i / 7) hq 6 (by decide)
  simp only [List.length_cons, List.length_nil, Nat.zero_add, Nat.reduceAdd, List.getElem_cons_zero, List.getElem_cons_succ, Nat.add_zero] at h0 h1 h2 h3 h4 h5 h6
  rcases (by omega : i % 7 = 0 ∨ i % 7 = 1 ∨ i % 7 = 2 ∨ i % 7 = 3 ∨ i % 7 = 4 ∨ i % 7 = 5 ∨ i % 7 = 6) with e | e | e | e | e | e | e
  · have ei : i = i / 7 * 7 := by omega
    obtain ⟨x, hx⟩ := h0
    rw [ei, hx, h.1]
    exact Or.inr (Or.inr (Or.inl ⟨_, _, rfl, rfl⟩))
  · have ei : i = i / 7 * 7 + 1 := by omega
    obtain ⟨x, hx⟩ := h1
    rw [ei, hx, h.2.1]
    exact Or.inr (Or.inl ⟨_, _, rfl, rfl⟩)
  · have ei : i = i / 7 * 7 + 2 := by omega
    obtain ⟨x, hx⟩ := h2
    rw [ei, hx, h.2.2.1]
    exact Or.inr (Or.inr (Or.inr ⟨_, _, rfl, rfl⟩))
  · have ei : i = i / 7 * 7 + 3 := by omega
    obtain ⟨x, hx⟩ := h3
    rw [ei, hx, h.2.2.2.1]
    exact Or.inr (Or.inr (Or.inr ⟨_, _, rfl, rfl⟩))
  · have ei : i = i / 7 * 7 + 4 := by omega
    obtain ⟨x, hx⟩ := h4
    rw [ei, hx, h.2.2.2.2.1]
    exact Or.inr (Or.inl ⟨_, _, rfl, rfl⟩)
  · have ei : i = i / 7 * 7 + 5 := by omega
    obtain ⟨x, hx⟩ := h5
    rw [ei, hx, h.2.2.2.2.2.1]
    exact Or.inr (Or.inl ⟨_, _, rfl, rfl⟩)
  · have ei : i = i / 7 * 7 + 6 := by omega
    obtain ⟨x, hx⟩ := h6
    rw [ei, hx, h.2.2.2.2.2.2]
    exact Or.inr (Or.inr (Or.inl ⟨_, _, rfl, rfl⟩))
theorem markColS_shape (S : Nat → Prop) (v : Value) (k : Nat) (w : World) (hv : ColsS S w v) (hk : k ≤ 8000000000000000000) :
    Calls Tryz.prog 75 #[v, .int .i64 k] w fun e w' => ∃ k' : Nat, e = .returned (.int .i64 k') ∧ k' ≤ k + 7340032 ∧ Marks S w w' := by
  obtain ⟨b, n, cap, f, rfl, hb, hn, hr, hf⟩ := hv
  refine (markColS_any b n cap (n * 7) _ f k w hr (Nat.le_refl _) hn hk).mono ?_
  rintro e w' ⟨rfl, ht, hr'⟩
  exact ⟨k + n * 7, rfl, by omega, Marks.one hb ht hr hr' (markC_kind hf)⟩

/-- The i-th element of a list of lists. -/
theorem RowS.inner {S : Nat → Prop} {T : TypeId} {P : Shape} {w : World} {b n cap : Nat} (h : RowS S T [P] w (.slice (some ⟨b, 0, none⟩) n cap)) (i : Nat) (hi : i < n) : ∃ u, w.cell? ⟨b, i, none⟩ = some u ∧ P w u := by
  obtain ⟨b', n', cap', f, e, hb, hn, hr, hf⟩ := h
  cases e
  have h0 := hf i hi 0 (by simp)
  simp only [List.length_cons, List.length_nil, Nat.zero_add, Nat.mul_one, Nat.add_zero, List.getElem_cons_zero] at h0 hr
  exact ⟨f i, hr.cell hi, h0⟩
theorem RowS.lit {S : Nat → Prop} {T : TypeId} {es : List Shape} {w : World} {v : Value} (h : RowS S T es w v) : ∃ b n cap, v = .slice (some ⟨b, 0, none⟩) n cap ∧ n ≤ 1048576 ∧ RowS S T es w (.slice (some ⟨b, 0, none⟩) n cap) := by
  obtain ⟨b, n, cap, f, rfl, hb, hn, h⟩ := h
  exact ⟨b, n, cap, rfl, hn, b, n, cap, f, rfl, hb, hn, h⟩

/-- A table among others. -/
theorem TabsS.tab {S : Nat → Prop} {w : World} {b n cap : Nat} (h : TabsS S w (.slice (some ⟨b, 0, none⟩) n cap)) (i : Nat) (hi : i < n) : ∃ f s b1 n1 c1 b2 n2 c2, S b ∧ w.rowIs b 177 (n * 3) f ∧ f (i * 3) = .string s ∧ w.cell? ⟨b, i * 3, none⟩ = some (.string s) ∧ w.cell? ⟨b, i * 3 + 1, none⟩ = some (.slice (some ⟨b1, 0, none⟩) n1 c1) ∧ w.cell? ⟨b, i * 3 + 2, none⟩ = some (.slice (some ⟨b2, 0, none⟩) n2 c2) ∧ w.frozen? ⟨b, i * 3, none⟩ = false ∧ ColsS S w (.slice (some ⟨b1, 0, none⟩) n1 c1) ∧ StrsS S w (.slice (some ⟨b2, 0, none⟩) n2 c2) := by
  obtain ⟨b', n', cap', f, e, hb, hn, hr, hf⟩ := h
  cases e
  have h0 := hf i hi 0 (by simp)
  have h1 := hf i hi 1 (by simp)
  have h2 := hf i hi 2 (by simp)
  simp only [List.length_cons, List.length_nil, Nat.zero_add, Nat.reduceAdd, List.getElem_cons_zero, List.getElem_cons_succ, Nat.add_zero] at h0 h1 h2 hr
  obtain ⟨s, hs⟩ := h0
  obtain ⟨b1, n1, c1, e1, _, h1⟩ := h1.lit
  obtain ⟨b2, n2, c2, e2, _, h2⟩ := h2.lit
  exact ⟨f, s, b1, n1, c1, b2, n2, c2, hb, hr, hs, by rw [← hs]; exact hr.cell (by omega), by rw [← e1]; exact hr.cell (by omega), by rw [← e2]; exact hr.cell (by omega), hr.frozen _, h1, h2⟩

end Go.Proofs.YtiijahoheajppaaGreat

namespace Go.Proofs.YtiijahoheajppaaGreat
open Go.ChangeShapes Go.WideShapes Go.ChangeAt Go.RowKit

/-- It hangs on blocks of S alone. -/
def Holds (S : Nat → Prop) (P : Shape) : Prop := ∀ w w' u, (∀ c, S c → c < w.heap.size → w'.heap[c]? = w.heap[c]?) → P w u → P w' u
theorem IntS.holds (S : Nat → Prop) : Holds S IntS := fun _ _ _ _ h => h
theorem StrS.holds (S : Nat → Prop) : Holds S StrS := fun _ _ _ _ h => h
theorem BoolS.holds (S : Nat → Prop) : Holds S BoolS := fun _ _ _ _ h => h
theorem RowS.holds {S : Nat → Prop} {T : TypeId} {es : List Shape} (he : ∀ j (h : j < es.length), Holds S es[j]) : Holds S (RowS S T es) := fun w w' _ hb ⟨b, n, cap, f, e, hS, hn, hr, hf⟩ =>
  ⟨b, n, cap, f, e, hS, hn, hr.of_block (hb b hS hr.lt), fun i hi j hj => he j hj w w' _ hb (hf i hi j hj)⟩
/-- A shape for each set of blocks. -/
structure Good (P : (Nat → Prop) → Shape) : Prop where
  holds : ∀ S, Holds S (P S)
  mono : ∀ S S' w u, (∀ c, S c → S' c) → P S w u → P S' w u
theorem ValsS.good : Good ValsS := ⟨fun S => RowS.holds fun j h => by
    match j, h with
    | 0, _ => exact IntS.holds S
    | 1, _ => exact IntS.holds S
    | 2, _ => exact StrS.holds S, fun _ _ _ _ hs h => RowS.mono hs rfl (fun _ _ _ _ _ h => h) h⟩
theorem ColsS.good : Good ColsS := ⟨fun S => RowS.holds fun j h => by
    match j, h with
    | 0, _ => exact StrS.holds S
    | 1, _ => exact IntS.holds S
    | 2, _ => exact BoolS.holds S
    | 3, _ => exact BoolS.holds S
    | 4, _ => exact IntS.holds S
    | 5, _ => exact IntS.holds S
    | 6, _ => exact StrS.holds S, fun _ _ _ _ hs h => RowS.mono hs rfl (fun _ _ _ _ _ h => h) h⟩
theorem StrsS.good : Good StrsS := ⟨fun S => RowS.holds fun j h => by
    match j, h with
    | 0, _ => exact StrS.holds S, fun _ _ _ _ hs h => RowS.mono hs rfl (fun _ _ _ _ _ h => h) h⟩
theorem one_good {P : (Nat → Prop) → Shape} (hP : Good P) (T : TypeId) : Good (fun S => RowS S T [P S]) := ⟨fun S => RowS.holds fun j h => by
    match j, h with
    | 0, _ => exact hP.holds S, fun S S' _ _ hs h => RowS.mono (es := [P S]) (es' := [P S']) hs rfl (fun j hj hj' w u hu => by
      match j, hj with
      | 0, _ => exact hP.mono S S' w u hs hu) h⟩
theorem RowsS.good : Good RowsS := one_good ValsS.good _
theorem TabsS.good : Good TabsS := ⟨fun S => RowS.holds fun j h => by
    match j, h with
    | 0, _ => exact StrS.holds S
    | 1, _ => exact ColsS.good.holds S
    | 2, _ => exact StrsS.good.holds S, fun S S' _ _ hs h => RowS.mono (es := [StrS, ColsS S, StrsS S]) (es' := [StrS, ColsS S', StrsS S']) hs rfl (fun j hj hj' w u hu => by
      match j, hj with
      | 0, _ => exact hu
      | 1, _ => exact ColsS.good.mono S S' w u hs hu
      | 2, _ => exact StrsS.good.mono S S' w u hs hu) h⟩
/-- It lies in blocks from B on, that are there. -/
def New (P : (Nat → Prop) → Shape) (B : Nat) (w : World) (v : Value) : Prop := P (fun c => B ≤ c ∧ c < w.heap.size) w v
theorem New.at {P : (Nat → Prop) → Shape} (hP : Good P) {B : Nat} {w w' : World} {v : Value} (h : New P B w v) (k : Apart B w w') : New P B w' v :=
  hP.mono _ _ _ _ (fun _ hc => ⟨hc.1, Nat.lt_of_lt_of_le hc.2 k.1⟩) (hP.holds _ w w' v (fun c hc hl => k.2 c hc.1 hl) h)
theorem New.on {P : (Nat → Prop) → Shape} (hP : Good P) {B : Nat} {w w' : World} {v : Value} (h : New P B w v) (k : Below w.heap.size w w') : New P B w' v := h.at hP (Apart.of_below k)
theorem New.set {P : (Nat → Prop) → Shape} (hP : Good P) {B : Nat} {w : World} {v : Value} (h : New P B w v) {p : Addr} (hp : p.block < B) (u : Value) : New P B (w.setCell p u) v := h.at hP ((Apart.refl _ _).set hp u)
theorem New.mono {P : (Nat → Prop) → Shape} (hP : Good P) {B B' : Nat} {w : World} {v : Value} (h : New P B w v) (hB : B' ≤ B) : New P B' w v := hP.mono _ _ _ _ (fun _ hc => ⟨Nat.le_trans hB hc.1, hc.2⟩) h
theorem Fill.valsN {w : World} {B : Nat} {vs : List Vc} (h : Fill w B 128 3 vs.length (vs.map Vc.cells)) (hl : vs.length ≤ 1048576) : New ValsS B w (.slice (some ⟨B, 0, none⟩) vs.length vs.length) := by
  have hlt := h.lt
  obtain ⟨h0, h1, f, hr, hf⟩ := h
  refine ⟨B, vs.length, vs.length, f, rfl, ⟨Nat.le_refl _, hlt⟩, hl, hr, fun i hi j hj => ?_⟩
  match j, hj with
  | 0, _ => have e := hf i (by simpa using hi) 0 (by omega); simp at e; exact ⟨_, e⟩
  | 1, _ => have e := hf i (by simpa using hi) 1 (by omega); simp at e; exact ⟨_, e⟩
  | 2, _ => have e := hf i (by simpa using hi) 2 (by omega); simp at e; exact ⟨_, e⟩
theorem Fill.colsN {w : World} {B : Nat} {vs : List Cl} (h : Fill w B 131 7 vs.length (vs.map Cl.cells)) (hl : vs.length ≤ 1048576) : New ColsS B w (.slice (some ⟨B, 0, none⟩) vs.length vs.length) := by
  have hlt := h.lt
  obtain ⟨h0, h1, f, hr, hf⟩ := h
  refine ⟨B, vs.length, vs.length, f, rfl, ⟨Nat.le_refl _, hlt⟩, hl, hr, fun i hi j hj => ?_⟩
  match j, hj with
  | 0, _ => have e := hf i (by simpa using hi) 0 (by omega); simp at e; exact ⟨_, e⟩
  | 1, _ => have e := hf i (by simpa using hi) 1 (by omega); simp at e; exact ⟨_, e⟩
  | 2, _ => have e := hf i (by simpa using hi) 2 (by omega); simp at e; exact ⟨_, e⟩
  | 3, _ => have e := hf i (by simpa using hi) 3 (by omega); simp at e; exact ⟨_, e⟩
  | 4, _ => have e := hf i (by simpa using hi) 4 (by omega); simp at e; exact ⟨_, e⟩
  | 5, _ => have e := hf i (by simpa using hi) 5 (by omega); simp at e; exact ⟨_, e⟩
  | 6, _ => have e := hf i (by simpa using hi) 6 (by omega); simp at e; exact ⟨_, e⟩
theorem Fill.strsN {w : World} {B : Nat} {vs : List ByteArray} (h : Fill w B 9 1 vs.length (vs.map strX)) (hl : vs.length ≤ 1048576) : New StrsS B w (.slice (some ⟨B, 0, none⟩) vs.length vs.length) := by
  have hlt := h.lt
  obtain ⟨h0, h1, f, hr, hf⟩ := h
  refine ⟨B, vs.length, vs.length, f, rfl, ⟨Nat.le_refl _, hlt⟩, hl, hr, fun i hi j hj => ?_⟩
  match j, hj with
  | 0, _ => have e := hf i (by simpa using hi) 0 (by omega); simp at e; exact ⟨_, by simpa using e⟩
/-- Elements of one cell laid so far, each with memory of its own. -/
def Nfill (P : (Nat → Prop) → Shape) (w : World) (B : Nat) (T : TypeId) (n k : Nat) : Prop := ∃ f, w.rowIs B T n f ∧ ∀ i, i < k → New P (B + 1) w (f i)
theorem Nfill.on {P : (Nat → Prop) → Shape} (hP : Good P) {w w' : World} {B : Nat} {T : TypeId} {n k : Nat} (h : Nfill P w B T n k) (b : Below w.heap.size w w') : Nfill P w' B T n k := by
  obtain ⟨f, hr, hf⟩ := h
  exact ⟨f, hr.of_block (b.block B hr.lt), fun i hi => (hf i hi).on hP b⟩
theorem Nfill.put {P : (Nat → Prop) → Shape} (hP : Good P) {w : World} {B : Nat} {T : TypeId} {n k : Nat} (h : Nfill P w B T n k) {y : Value} (hy : New P (B + 1) w y) : Nfill P (w.setCell ⟨B, k, none⟩ y) B T n (k + 1) := by
  obtain ⟨f, hr, hf⟩ := h
  refine ⟨_, hr.set k y, fun i hi => ?_⟩
  by_cases e : i = k
  · subst e; simp only [if_true]; exact hy.set hP (by simp) _
  · simp only [if_neg e]; exact (hf i (by omega)).set hP (by simp) _
theorem Nfill.done {P : (Nat → Prop) → Shape} (hP : Good P) {w : World} {B : Nat} {T : TypeId} {n : Nat} (h : Nfill P w B T n n) (hn : n ≤ 1048576) : New (fun S => RowS S T [P S]) B w (.slice (some ⟨B, 0, none⟩) n n) := by
  obtain ⟨f, hr, hf⟩ := h
  refine ⟨B, n, n, f, rfl, ⟨Nat.le_refl _, hr.lt⟩, hn, by simpa using hr, fun i hi j hj => ?_⟩
  match j, hj with
  | 0, _ =>
    have h0 : New P B w (f i) := (hf i hi).mono hP (by omega)
    simpa using (show P (fun c => B ≤ c ∧ c < w.heap.size) w (f i) from h0)
end Go.Proofs.YtiijahoheajppaaGreat

namespace Go.Proofs.YtiijahoheajppaaGreat
open Go.ChangeShapes Go.WideShapes Go.ChangeAt Go.RowKit

/-- Read as that, and in new memory alone. -/
def ValsN (B : Nat) (w : World) (v : Value) (l : List Vc) : Prop := ValsV w v l ∧ New ValsS B w v
def ColsN (B : Nat) (w : World) (v : Value) (l : List Cl) : Prop := ColsV w v l ∧ New ColsS B w v
def StrsN (B : Nat) (w : World) (v : Value) (l : List ByteArray) : Prop := StrsV w v l ∧ New StrsS B w v
def DdlN (B : Nat) (w : World) (x : Array Value) (d : Dc) : Prop := ∃ cv kv, x = #[.int .i64 d.kind, .string d.table, cv, kv, .string d.name, .string d.to] ∧ ColsN B w cv d.cols ∧ StrsN B w kv d.keys
def StmtN (B : Nat) (w : World) (x : Array Value) (s : Sc) : Prop := ∃ k r c o, x = s.cells k r c o ∧ ValsN B w k s.key ∧ ValsN B w r s.row ∧ ColsN B w c s.ddl.cols ∧ StrsN B w o s.ddl.keys
theorem StmtN.stmt {B : Nat} {w : World} {x : Array Value} {s : Sc} (h : StmtN B w x s) : StmtV w x s := by
  obtain ⟨k, r, c, o, e, h1, h2, h3, h4⟩ := h; exact ⟨k, r, c, o, e, h1.1, h2.1, h3.1, h4.1⟩
theorem DdlN.lit {B : Nat} {w : World} {x : Array Value} {t : Dc} (h : DdlN B w x t) : ∃ a p b q, x = #[.int .i64 t.kind, .string t.table, .slice a t.cols.length p, .slice b t.keys.length q, .string t.name, .string t.to] ∧ DdlN B w #[.int .i64 t.kind, .string t.table, .slice a t.cols.length p, .slice b t.keys.length q, .string t.name, .string t.to] t := by
  obtain ⟨cv, kv, rfl, h1, h2⟩ := h
  obtain ⟨a, p, rfl, _⟩ := id h1.1
  obtain ⟨b, q, rfl, _⟩ := id h2.1
  exact ⟨a, p, b, q, rfl, _, _, rfl, h1, h2⟩
theorem Fill.firmCols {w : World} {B : Nat} {cs : List Cl} (h : Fill w B 131 7 cs.length (cs.map Cl.cells)) (hl : cs.length ≤ 1048576) {b : Nat} (hb : b ≤ B) : Firm B (fun u => ColsN b u (.slice (some ⟨B, 0, none⟩) cs.length cs.length) cs) w :=
  (h.firm (Nat.le_refl _)).imp fun u hu => ⟨hu.colsV (by unfold maxLen; omega), (hu.colsN hl).mono ColsS.good hb⟩
theorem Fill.firmStrs {w : World} {B : Nat} {cs : List ByteArray} (h : Fill w B 9 1 cs.length (cs.map strX)) (hl : cs.length ≤ 1048576) {b : Nat} (hb : b ≤ B) : Firm B (fun u => StrsN b u (.slice (some ⟨B, 0, none⟩) cs.length cs.length) cs) w :=
  (h.firm (Nat.le_refl _)).imp fun u hu => ⟨hu.strsV (by unfold maxLen; omega), (hu.strsN hl).mono StrsS.good hb⟩
theorem Fill.firmVals {w : World} {B : Nat} {cs : List Vc} (h : Fill w B 128 3 cs.length (cs.map Vc.cells)) (hl : cs.length ≤ 1048576) {b : Nat} (hb : b ≤ B) : Firm B (fun u => ValsN b u (.slice (some ⟨B, 0, none⟩) cs.length cs.length) cs) w :=
  (h.firm (Nat.le_refl _)).imp fun u hu => ⟨hu.valsV (by unfold maxLen; omega), (hu.valsN hl).mono ValsS.good hb⟩

set_option maxRecDepth 100000 in
set_option maxHeartbeats 2000000 in
/-- laws.toDdl -/
theorem toDdl_full (x : Array Value) (t : Dc) (w : World) (hx : DdlV w x t) (hf : t.few) :
    Calls Tryz.prog 132 #[.agg x] w fun e w' => ∃ y, e = .returned (.agg y) ∧ Below w.heap.size w w' ∧ Firm w.heap.size (fun u => DdlN w.heap.size u y t) w' := by
  obtain ⟨cv, kv, rfl, hc, hk⟩ := hx
  obtain ⟨kind, table, cs, ks, name, to⟩ := t
  obtain ⟨hfc, hfk⟩ := hf
  simp only at hfc hfk hc hk
  have HC : Hid (ColsV w cv cs) := hc
  have HK : Hid (StrsV w kv ks) := hk
  have HL := Loc.new w #[.int .i64 kind, .string table, cv, kv, .string name, .string to] 103
  clear hc hk
  go_enter Tryz.func132, Tryz.ntmps132
  go_wp2_with fail
  have hb0 : Below w.heap.size w (((w.alloc (.cells #[.int .i64 kind, .string table, cv, kv, .string name, .string to] 103)).alloc (.cells #[.int .i64 0, .string { data := #[] }, .slice none 0 0, .slice none 0 0, .string { data := #[] }, .string { data := #[] }] 46)).alloc (.cells #[.int .i64 kind, .string table, .slice none 0 0, .slice none 0 0, .string { data := #[] }, .string { data := #[] }] 46)) := (by repeat (first | with_reducible exact Below.refl _ _ | with_reducible assumption | with_reducible refine ch_alloc ?_ _ | with_reducible refine Below.drew ?_ | with_reducible refine below_draws _ ?_ | (with_reducible refine Below.setCell ?_ ?_ _; rotate_left; focus (first | with_reducible exact Nat.le_refl _ | (simp; done) | (simp; omega) | (simp at *; omega))) | with_reducible refine ch_trans ?_ (by with_reducible assumption)))
  have HQ := Own.at (w.alloc (.cells #[.int .i64 kind, .string table, cv, kv, .string name, .string to] 103)) 46 #[.int .i64 0, .string { data := #[] }, .slice none 0 0, .slice none 0 0, .string { data := #[] }, .string { data := #[] }] (n := w.heap.size + 1) (by simp)
  have HO := Own.at ((w.alloc (.cells #[.int .i64 kind, .string table, cv, kv, .string name, .string to] 103)).alloc (.cells #[.int .i64 0, .string { data := #[] }, .slice none 0 0, .slice none 0 0, .string { data := #[] }, .string { data := #[] }] 46)) 46 #[.int .i64 kind, .string table, .slice none 0 0, .slice none 0 0, .string { data := #[] }, .string { data := #[] }] (n := w.heap.size + 1 + 1) (by simp)
  have HQ0 := HQ.on (ch_alloc (Below.refl _ _) (.cells #[.int .i64 kind, .string table, .slice none 0 0, .slice none 0 0, .string { data := #[] }, .string { data := #[] }] 46))
  have HL0 := (HL.on1 (.cells #[.int .i64 0, .string { data := #[] }, .slice none 0 0, .slice none 0 0, .string { data := #[] }, .string { data := #[] }] 46)).on1 (.cells #[.int .i64 kind, .string table, .slice none 0 0, .slice none 0 0, .string { data := #[] }, .string { data := #[] }] 46)
  have hs0 : w.heap.size + 1 + 1 + 1 ≤ ((((w.alloc (.cells #[.int .i64 kind, .string table, cv, kv, .string name, .string to] 103)).alloc (.cells #[.int .i64 0, .string { data := #[] }, .slice none 0 0, .slice none 0 0, .string { data := #[] }, .string { data := #[] }] 46)).alloc (.cells #[.int .i64 kind, .string table, .slice none 0 0, .slice none 0 0, .string { data := #[] }, .string { data := #[] }] 46))).heap.size := by simp
  clear HL HQ
  generalize (((w.alloc (.cells #[.int .i64 kind, .string table, cv, kv, .string name, .string to] 103)).alloc (.cells #[.int .i64 0, .string { data := #[] }, .slice none 0 0, .slice none 0 0, .string { data := #[] }, .string { data := #[] }] 46)).alloc (.cells #[.int .i64 kind, .string table, .slice none 0 0, .slice none 0 0, .string { data := #[] }, .string { data := #[] }] 46)) = u0 at hb0 HO HQ0 HL0 hs0 ⊢
  refine (toColS_full cv cs _ (HC.out.on hb0) hfc).mono ?_
  rintro e w1 ⟨rfl, b1, hy⟩
  have HY : Hid (Firm (w.heap.size + 1 + 1 + 1) (fun u => ColsN w.heap.size u (.slice (some ⟨u0.heap.size, 0, none⟩) cs.length cs.length) cs) w1) := (hy.firmCols hfc (by omega)).mono hs0
  have hb1 := ch_trans hb0 b1
  have HO1 := HO.on b1
  have HQ1 := HQ0.on b1
  have HL1 := HL0.on b1
  have hs1 : w.heap.size + 1 + 1 + 1 ≤ w1.heap.size := by have := b1.size; omega
  generalize u0.heap.size = B1 at HY ⊢
  clear hy hb0 b1 HO HQ0 HL0 hs0
  obtain ⟨c0, c1, c2, c3, c4, c5⟩ := HL1.six
  obtain ⟨d0, d1, d2, d3, d4, d5⟩ := HO1.loc.six
  have f2 := HO1.frozen 2
  go_wp2_with fail
  have HO2 := HO1.set 2 (.slice (some ⟨B1, 0, none⟩) cs.length cs.length)
  have HQ2 := HQ1.other (p := ⟨w.heap.size + 1 + 1, 2, none⟩) (by simp) (.slice (some ⟨B1, 0, none⟩) cs.length cs.length)
  have hb2 : Below w.heap.size w (w1.setCell ⟨w.heap.size + 1 + 1, 2, none⟩ (.slice (some ⟨B1, 0, none⟩) cs.length cs.length)) := (by repeat (first | with_reducible exact Below.refl _ _ | with_reducible assumption | with_reducible refine ch_alloc ?_ _ | with_reducible refine Below.drew ?_ | with_reducible refine below_draws _ ?_ | (with_reducible refine Below.setCell ?_ ?_ _; rotate_left; focus (first | with_reducible exact Nat.le_refl _ | (simp; done) | (simp; omega) | (simp at *; omega))) | with_reducible refine ch_trans ?_ (by with_reducible assumption)))
  have HL2 := HL1.other (p := ⟨w.heap.size + 1 + 1, 2, none⟩) (by simp; omega) (.slice (some ⟨B1, 0, none⟩) cs.length cs.length)
  have HY2 : Hid (Firm (w.heap.size + 1 + 1 + 1) (fun u => ColsN w.heap.size u (.slice (some ⟨B1, 0, none⟩) cs.length cs.length) cs) (w1.setCell ⟨w.heap.size + 1 + 1, 2, none⟩ (.slice (some ⟨B1, 0, none⟩) cs.length cs.length))) := HY.out.set (by simp) _
  have hs2 : w.heap.size + 1 + 1 + 1 ≤ (w1.setCell ⟨w.heap.size + 1 + 1, 2, none⟩ (.slice (some ⟨B1, 0, none⟩) cs.length cs.length)).heap.size := by simpa using hs1
  clear HY hs1 HO1 HQ1 HL1 hb1 c0 c1 c2 c3 c4 c5 d0 d1 d2 d3 d4 d5 f2
  generalize (w1.setCell ⟨w.heap.size + 1 + 1, 2, none⟩ (.slice (some ⟨B1, 0, none⟩) cs.length cs.length)) = u1 at HO2 HQ2 hb2 HL2 HY2 hs2 ⊢
  refine (toStringS_full kv ks _ (HK.out.on hb2) hfk).mono ?_
  rintro e w2 ⟨rfl, b2, hy⟩
  have HZ : Hid (Firm (w.heap.size + 1 + 1 + 1) (fun u => StrsN w.heap.size u (.slice (some ⟨u1.heap.size, 0, none⟩) ks.length ks.length) ks) w2) := (hy.firmStrs hfk (by omega)).mono hs2
  have HF6 : Hid (Firm (w.heap.size + 1 + 1 + 1) (fun u => DdlN w.heap.size u #[.int .i64 kind, .string table, .slice (some ⟨B1, 0, none⟩) cs.length cs.length, .slice (some ⟨u1.heap.size, 0, none⟩) ks.length ks.length, .string name, .string to] ⟨kind, table, cs, ks, name, to⟩) w2) := ((HY2.out.on b2).and HZ.out).imp fun u ⟨h1, h2⟩ => ⟨_, _, rfl, h1, h2⟩
  have hb3 := ch_trans hb2 b2
  have HO3 := HO2.on b2
  have HQ3 := HQ2.on b2
  have HL3 := HL2.on b2
  generalize u1.heap.size = B2 at HF6 ⊢
  clear hy b2 HO2 HQ2 HL2 hb2 hs2 HY2 HZ
  obtain ⟨c0, c1, c2, c3, c4, c5⟩ := HL3.six
  obtain ⟨d0, d1, d2, d3, d4, d5⟩ := HO3.loc.six
  have f3 := HO3.frozen 3
  have f4 := HO3.frozen 4
  have f5 := HO3.frozen 5
  obtain ⟨g0, g1, g2, g3, g4, g5⟩ := HQ3.loc.six
  have i0 := HQ3.frozen 0
  have i1 := HQ3.frozen 1
  have i2 := HQ3.frozen 2
  have i3 := HQ3.frozen 3
  have i4 := HQ3.frozen 4
  have i5 := HQ3.frozen 5
  go_wp2
  have HQ4 : Own (((((((((w2.setCell ⟨w.heap.size + 1 + 1, 3, none⟩ (.slice (some ⟨B2, 0, none⟩) ks.length ks.length)).setCell ⟨w.heap.size + 1 + 1, 4, none⟩ (.string name)).setCell ⟨w.heap.size + 1 + 1, 5, none⟩ (.string to)).setCell ⟨w.heap.size + 1, 0, none⟩ (.int .i64 kind)).setCell ⟨w.heap.size + 1, 1, none⟩ (.string table)).setCell ⟨w.heap.size + 1, 2, none⟩ (.slice (some ⟨B1, 0, none⟩) cs.length cs.length)).setCell ⟨w.heap.size + 1, 3, none⟩ (.slice (some ⟨B2, 0, none⟩) ks.length ks.length)).setCell ⟨w.heap.size + 1, 4, none⟩ (.string name)).setCell ⟨w.heap.size + 1, 5, none⟩ (.string to)) _ _ #[.int .i64 kind, .string table, .slice (some ⟨B1, 0, none⟩) cs.length cs.length, .slice (some ⟨B2, 0, none⟩) ks.length ks.length, .string name, .string to] := (Own.past (c := w.heap.size + 1 + 1) (by omega) [.slice (some ⟨B2, 0, none⟩) ks.length ks.length, .string name, .string to] _ 3 HQ3).fill (old := [_, _, _, _, _, _]) [.int .i64 kind, .string table, .slice (some ⟨B1, 0, none⟩) cs.length cs.length, .slice (some ⟨B2, 0, none⟩) ks.length ks.length, .string name, .string to] rfl
  have HF7 : Hid (Firm (w.heap.size + 1 + 1 + 1) (fun u => DdlN w.heap.size u #[.int .i64 kind, .string table, .slice (some ⟨B1, 0, none⟩) cs.length cs.length, .slice (some ⟨B2, 0, none⟩) ks.length ks.length, .string name, .string to] ⟨kind, table, cs, ks, name, to⟩) (((((((((w2.setCell ⟨w.heap.size + 1 + 1, 3, none⟩ (.slice (some ⟨B2, 0, none⟩) ks.length ks.length)).setCell ⟨w.heap.size + 1 + 1, 4, none⟩ (.string name)).setCell ⟨w.heap.size + 1 + 1, 5, none⟩ (.string to)).setCell ⟨w.heap.size + 1, 0, none⟩ (.int .i64 kind)).setCell ⟨w.heap.size + 1, 1, none⟩ (.string table)).setCell ⟨w.heap.size + 1, 2, none⟩ (.slice (some ⟨B1, 0, none⟩) cs.length cs.length)).setCell ⟨w.heap.size + 1, 3, none⟩ (.slice (some ⟨B2, 0, none⟩) ks.length ks.length)).setCell ⟨w.heap.size + 1, 4, none⟩ (.string name)).setCell ⟨w.heap.size + 1, 5, none⟩ (.string to))) := Firm.stores (b := w.heap.size + 1) (by omega) [.int .i64 kind, .string table, .slice (some ⟨B1, 0, none⟩) cs.length cs.length, .slice (some ⟨B2, 0, none⟩) ks.length ks.length, .string name, .string to] _ 0 (Firm.stores (b := w.heap.size + 1 + 1) (by omega) [.slice (some ⟨B2, 0, none⟩) ks.length ks.length, .string name, .string to] _ 3 HF6.out)
  have HB : Hid (Below w.heap.size w (((((((((w2.setCell ⟨w.heap.size + 1 + 1, 3, none⟩ (.slice (some ⟨B2, 0, none⟩) ks.length ks.length)).setCell ⟨w.heap.size + 1 + 1, 4, none⟩ (.string name)).setCell ⟨w.heap.size + 1 + 1, 5, none⟩ (.string to)).setCell ⟨w.heap.size + 1, 0, none⟩ (.int .i64 kind)).setCell ⟨w.heap.size + 1, 1, none⟩ (.string table)).setCell ⟨w.heap.size + 1, 2, none⟩ (.slice (some ⟨B1, 0, none⟩) cs.length cs.length)).setCell ⟨w.heap.size + 1, 3, none⟩ (.slice (some ⟨B2, 0, none⟩) ks.length ks.length)).setCell ⟨w.heap.size + 1, 4, none⟩ (.string name)).setCell ⟨w.heap.size + 1, 5, none⟩ (.string to))) := by
    show Below _ _ _
    exact stores_below (b := w.heap.size + 1) (by omega) [.int .i64 kind, .string table, .slice (some ⟨B1, 0, none⟩) cs.length cs.length, .slice (some ⟨B2, 0, none⟩) ks.length ks.length, .string name, .string to] _ 0 (stores_below (b := w.heap.size + 1 + 1) (by omega) [.slice (some ⟨B2, 0, none⟩) ks.length ks.length, .string name, .string to] _ 3 hb3)
  generalize (((((((((w2.setCell ⟨w.heap.size + 1 + 1, 3, none⟩ (.slice (some ⟨B2, 0, none⟩) ks.length ks.length)).setCell ⟨w.heap.size + 1 + 1, 4, none⟩ (.string name)).setCell ⟨w.heap.size + 1 + 1, 5, none⟩ (.string to)).setCell ⟨w.heap.size + 1, 0, none⟩ (.int .i64 kind)).setCell ⟨w.heap.size + 1, 1, none⟩ (.string table)).setCell ⟨w.heap.size + 1, 2, none⟩ (.slice (some ⟨B1, 0, none⟩) cs.length cs.length)).setCell ⟨w.heap.size + 1, 3, none⟩ (.slice (some ⟨B2, 0, none⟩) ks.length ks.length)).setCell ⟨w.heap.size + 1, 4, none⟩ (.string name)).setCell ⟨w.heap.size + 1, 5, none⟩ (.string to)) = W at HQ4 HF7 HB ⊢
  obtain ⟨e0, e1, e2, e3, e4, e5⟩ := HQ4.loc.six
  exact bodyPost_ret (v := .agg #[.int .i64 kind, .string table, .slice (some ⟨B1, 0, none⟩) cs.length cs.length, .slice (some ⟨B2, 0, none⟩) ks.length ks.length, .string name, .string to]) (by simp [results, Tryz.results132, go_sem, e0, e1, e2, e3, e4, e5]) rfl ⟨_, rfl, HB.out, HF7.out.mono (by omega)⟩
end Go.Proofs.YtiijahoheajppaaGreat

namespace Go.Proofs.YtiijahoheajppaaGreat
open Go.ChangeShapes Go.WideShapes Go.ChangeAt Go.RowKit

set_option maxRecDepth 100000 in
set_option maxHeartbeats 2000000 in
/-- laws.toStmt -/
theorem toStmt_full (x : Array Value) (t : Sc) (w : World) (hx : StmtV w x t) (hf : t.few) :
    Calls Tryz.prog 105 #[.agg x] w fun e w' => ∃ y, e = .returned (.agg y) ∧ Below w.heap.size w w' ∧ Firm w.heap.size (fun u => StmtN w.heap.size u y t) w' := by
  obtain ⟨ka, kp, ra, rp, ca, cp, oa, op, rfl, hk, hr, hc, ho⟩ := hx.lit
  obtain ⟨hfk, hfr, hfd⟩ := hf
  obtain ⟨kind, table, key, row, ⟨dk, dt, cs, ks, dn, to⟩⟩ := t
  simp only [Sc.cells] at *
  have HK : Hid (ValsV w (.slice ka key.length kp) key) := hk
  have HR : Hid (ValsV w (.slice ra row.length rp) row) := hr
  have HD : Hid (∀ u : World, Below w.heap.size w u → DdlV u #[.int .i64 dk, .string dt, .slice ca cs.length cp, .slice oa ks.length op, .string dn, .string to] ⟨dk, dt, cs, ks, dn, to⟩) := fun u hu => ⟨_, _, rfl, hc.on hu, ho.on hu⟩
  have HF : Hid (Dc.few ⟨dk, dt, cs, ks, dn, to⟩) := hfd
  clear hk hr hc ho hfd hx
  have HL := Loc.new w #[.int .i64 kind, .string table, .slice ka key.length kp, .slice ra row.length rp, .int .i64 dk, .string dt, .slice ca cs.length cp, .slice oa ks.length op, .string dn, .string to] 105
  go_enter Tryz.func105, Tryz.ntmps105
  go_wp2_with fail
  have hb0 : Below w.heap.size w (((w.alloc (.cells #[.int .i64 kind, .string table, .slice ka key.length kp, .slice ra row.length rp, .int .i64 dk, .string dt, .slice ca cs.length cp, .slice oa ks.length op, .string dn, .string to] 105)).alloc (.cells #[.int .i64 0, .string { data := #[] }, .slice none 0 0, .slice none 0 0, .int .i64 0, .string { data := #[] }, .slice none 0 0, .slice none 0 0, .string { data := #[] }, .string { data := #[] }] 48)).alloc (.cells #[.int .i64 kind, .string table, .slice none 0 0, .slice none 0 0, .int .i64 0, .string { data := #[] }, .slice none 0 0, .slice none 0 0, .string { data := #[] }, .string { data := #[] }] 48)) := (by repeat (first | with_reducible exact Below.refl _ _ | with_reducible assumption | with_reducible refine ch_alloc ?_ _ | with_reducible refine Below.drew ?_ | with_reducible refine below_draws _ ?_ | (with_reducible refine Below.setCell ?_ ?_ _; rotate_left; focus (first | with_reducible exact Nat.le_refl _ | (simp; done) | (simp; omega) | (simp at *; omega))) | with_reducible refine ch_trans ?_ (by with_reducible assumption)))
  have HQ := Own.at (w.alloc (.cells #[.int .i64 kind, .string table, .slice ka key.length kp, .slice ra row.length rp, .int .i64 dk, .string dt, .slice ca cs.length cp, .slice oa ks.length op, .string dn, .string to] 105)) 48 #[.int .i64 0, .string { data := #[] }, .slice none 0 0, .slice none 0 0, .int .i64 0, .string { data := #[] }, .slice none 0 0, .slice none 0 0, .string { data := #[] }, .string { data := #[] }] (n := w.heap.size + 1) (by simp)
  have HO := Own.at ((w.alloc (.cells #[.int .i64 kind, .string table, .slice ka key.length kp, .slice ra row.length rp, .int .i64 dk, .string dt, .slice ca cs.length cp, .slice oa ks.length op, .string dn, .string to] 105)).alloc (.cells #[.int .i64 0, .string { data := #[] }, .slice none 0 0, .slice none 0 0, .int .i64 0, .string { data := #[] }, .slice none 0 0, .slice none 0 0, .string { data := #[] }, .string { data := #[] }] 48)) 48 #[.int .i64 kind, .string table, .slice none 0 0, .slice none 0 0, .int .i64 0, .string { data := #[] }, .slice none 0 0, .slice none 0 0, .string { data := #[] }, .string { data := #[] }] (n := w.heap.size + 1 + 1) (by simp)
  have HQ0 := HQ.on (ch_alloc (Below.refl _ _) (.cells #[.int .i64 kind, .string table, .slice none 0 0, .slice none 0 0, .int .i64 0, .string { data := #[] }, .slice none 0 0, .slice none 0 0, .string { data := #[] }, .string { data := #[] }] 48))
  have HL0 := (HL.on1 (.cells #[.int .i64 0, .string { data := #[] }, .slice none 0 0, .slice none 0 0, .int .i64 0, .string { data := #[] }, .slice none 0 0, .slice none 0 0, .string { data := #[] }, .string { data := #[] }] 48)).on1 (.cells #[.int .i64 kind, .string table, .slice none 0 0, .slice none 0 0, .int .i64 0, .string { data := #[] }, .slice none 0 0, .slice none 0 0, .string { data := #[] }, .string { data := #[] }] 48)
  have hs0 : w.heap.size + 1 + 1 + 1 ≤ (((w.alloc (.cells #[.int .i64 kind, .string table, .slice ka key.length kp, .slice ra row.length rp, .int .i64 dk, .string dt, .slice ca cs.length cp, .slice oa ks.length op, .string dn, .string to] 105)).alloc (.cells #[.int .i64 0, .string { data := #[] }, .slice none 0 0, .slice none 0 0, .int .i64 0, .string { data := #[] }, .slice none 0 0, .slice none 0 0, .string { data := #[] }, .string { data := #[] }] 48)).alloc (.cells #[.int .i64 kind, .string table, .slice none 0 0, .slice none 0 0, .int .i64 0, .string { data := #[] }, .slice none 0 0, .slice none 0 0, .string { data := #[] }, .string { data := #[] }] 48)).heap.size := by simp
  clear HL HQ
  generalize ((w.alloc (.cells #[.int .i64 kind, .string table, .slice ka key.length kp, .slice ra row.length rp, .int .i64 dk, .string dt, .slice ca cs.length cp, .slice oa ks.length op, .string dn, .string to] 105)).alloc (.cells #[.int .i64 0, .string { data := #[] }, .slice none 0 0, .slice none 0 0, .int .i64 0, .string { data := #[] }, .slice none 0 0, .slice none 0 0, .string { data := #[] }, .string { data := #[] }] 48)).alloc (.cells #[.int .i64 kind, .string table, .slice none 0 0, .slice none 0 0, .int .i64 0, .string { data := #[] }, .slice none 0 0, .slice none 0 0, .string { data := #[] }, .string { data := #[] }] 48) = u0 at hb0 HO HQ0 HL0 hs0 ⊢
  refine (toValS_any _ key _ (HK.out.on hb0) hfk).mono ?_
  rintro e w1 ⟨rfl, b1, hy⟩
  have HY : Hid (Firm (w.heap.size + 1 + 1 + 1) (fun u => ValsN w.heap.size u (.slice (some ⟨u0.heap.size, 0, none⟩) key.length key.length) key) w1) := (hy.firmVals hfk (by omega)).mono hs0
  have hb1 := ch_trans hb0 b1
  have HO1 := HO.on b1
  have HQ1 := HQ0.on b1
  have HL1 := HL0.on b1
  have hs1 : w.heap.size + 1 + 1 + 1 ≤ w1.heap.size := by have := b1.size; omega
  generalize u0.heap.size = B1 at HY ⊢
  clear hy hb0 b1 HO HQ0 HL0 hs0
  obtain ⟨c0, c1, c2, c3, c4, c5, c6, c7, c8, c9⟩ := HL1.ten
  obtain ⟨d0, d1, d2, d3, d4, d5, d6, d7, d8, d9⟩ := HO1.loc.ten
  have f2 := HO1.frozen 2
  go_wp2_with fail
  have HO2 := HO1.set 2 (.slice (some ⟨B1, 0, none⟩) key.length key.length)
  have HQ2 := HQ1.other (p := ⟨w.heap.size + 1 + 1, 2, none⟩) (by simp) (.slice (some ⟨B1, 0, none⟩) key.length key.length)
  have hb2 : Below w.heap.size w (w1.setCell ⟨w.heap.size + 1 + 1, 2, none⟩ (.slice (some ⟨B1, 0, none⟩) key.length key.length)) := (by repeat (first | with_reducible exact Below.refl _ _ | with_reducible assumption | with_reducible refine ch_alloc ?_ _ | with_reducible refine Below.drew ?_ | with_reducible refine below_draws _ ?_ | (with_reducible refine Below.setCell ?_ ?_ _; rotate_left; focus (first | with_reducible exact Nat.le_refl _ | (simp; done) | (simp; omega) | (simp at *; omega))) | with_reducible refine ch_trans ?_ (by with_reducible assumption)))
  have HL2 := HL1.other (p := ⟨w.heap.size + 1 + 1, 2, none⟩) (by simp; omega) (.slice (some ⟨B1, 0, none⟩) key.length key.length)
  have HY2 : Hid (Firm (w.heap.size + 1 + 1 + 1) (fun u => ValsN w.heap.size u (.slice (some ⟨B1, 0, none⟩) key.length key.length) key) (w1.setCell ⟨w.heap.size + 1 + 1, 2, none⟩ (.slice (some ⟨B1, 0, none⟩) key.length key.length))) := HY.out.set (by simp) _
  have hs2 : w.heap.size + 1 + 1 + 1 ≤ (w1.setCell ⟨w.heap.size + 1 + 1, 2, none⟩ (.slice (some ⟨B1, 0, none⟩) key.length key.length)).heap.size := by simpa using hs1
  clear HY hs1 HO1 HQ1 HL1 hb1 c0 c1 c2 c3 c4 c5 c6 c7 c8 c9 d0 d1 d2 d3 d4 d5 d6 d7 d8 d9 f2
  generalize (w1.setCell ⟨w.heap.size + 1 + 1, 2, none⟩ (.slice (some ⟨B1, 0, none⟩) key.length key.length)) = u1 at HO2 HQ2 hb2 HL2 HY2 hs2 ⊢
  refine (toRow_any _ row _ (HR.out.on hb2) hfr).mono ?_
  rintro e w2 ⟨B2, rfl, hB2, b2, hy⟩
  have HZ : Hid (Firm (w.heap.size + 1 + 1 + 1) (fun u => ValsN w.heap.size u (.slice (some ⟨B2, 0, none⟩) row.length row.length) row) w2) := (hy.firmVals hfr (by omega)).mono (by omega)
  have HY3 : Hid (Firm (w.heap.size + 1 + 1 + 1) (fun u => ValsN w.heap.size u (.slice (some ⟨B1, 0, none⟩) key.length key.length) key) w2) := HY2.out.on b2
  have hb3 := ch_trans hb2 b2
  have HO3 := HO2.on b2
  have HQ3 := HQ2.on b2
  have HL3 := HL2.on b2
  have hs3 : w.heap.size + 1 + 1 + 1 ≤ w2.heap.size := by have := b2.size; omega
  clear hy hB2 b2 HO2 HQ2 HL2 hb2 hs2 HY2
  obtain ⟨c0, c1, c2, c3, c4, c5, c6, c7, c8, c9⟩ := HL3.ten
  obtain ⟨d0, d1, d2, d3, d4, d5, d6, d7, d8, d9⟩ := HO3.loc.ten
  have f3 := HO3.frozen 3
  go_wp2_with fail
  have HO4 := HO3.set 3 (.slice (some ⟨B2, 0, none⟩) row.length row.length)
  have HQ4 := HQ3.other (p := ⟨w.heap.size + 1 + 1, 3, none⟩) (by simp) (.slice (some ⟨B2, 0, none⟩) row.length row.length)
  have HF4 : Hid (Firm (w.heap.size + 1 + 1 + 1) (fun u => ValsN w.heap.size u (.slice (some ⟨B1, 0, none⟩) key.length key.length) key ∧ ValsN w.heap.size u (.slice (some ⟨B2, 0, none⟩) row.length row.length) row) (w2.setCell ⟨w.heap.size + 1 + 1, 3, none⟩ (.slice (some ⟨B2, 0, none⟩) row.length row.length))) := (HY3.out.and HZ.out).set (by simp) _
  have hb4 : Below w.heap.size w (w2.setCell ⟨w.heap.size + 1 + 1, 3, none⟩ (.slice (some ⟨B2, 0, none⟩) row.length row.length)) := (by repeat (first | with_reducible exact Below.refl _ _ | with_reducible assumption | with_reducible refine ch_alloc ?_ _ | with_reducible refine Below.drew ?_ | with_reducible refine below_draws _ ?_ | (with_reducible refine Below.setCell ?_ ?_ _; rotate_left; focus (first | with_reducible exact Nat.le_refl _ | (simp; done) | (simp; omega) | (simp at *; omega))) | with_reducible refine ch_trans ?_ (by with_reducible assumption)))
  have hs4 : w.heap.size + 1 + 1 + 1 ≤ (w2.setCell ⟨w.heap.size + 1 + 1, 3, none⟩ (.slice (some ⟨B2, 0, none⟩) row.length row.length)).heap.size := by simpa using hs3
  clear HY3 HZ HO3 HQ3 HL3 hb3 hs3 c0 c1 c2 c3 c4 c5 c6 c7 c8 c9 d0 d1 d2 d3 d4 d5 d6 d7 d8 d9 f3
  generalize (w2.setCell ⟨w.heap.size + 1 + 1, 3, none⟩ (.slice (some ⟨B2, 0, none⟩) row.length row.length)) = u2 at HO4 HQ4 hb4 HF4 hs4 ⊢
  refine (toDdl_full _ ⟨dk, dt, cs, ks, dn, to⟩ _ (HD.out _ hb4) HF.out).mono ?_
  rintro e w3 ⟨y, rfl, b3, hy⟩
  obtain ⟨c1, q1, o1, q2, rfl, _⟩ := hy.out.lit
  have HZ : Hid (Firm (w.heap.size + 1 + 1 + 1) (fun u => DdlN w.heap.size u #[.int .i64 dk, .string dt, .slice c1 cs.length q1, .slice o1 ks.length q2, .string dn, .string to] ⟨dk, dt, cs, ks, dn, to⟩) w3) := (hy.mono (by omega)).imp fun u ⟨cv, kv, e, h1, h2⟩ => ⟨cv, kv, e, ⟨h1.1, h1.2.mono ColsS.good (by omega)⟩, ⟨h2.1, h2.2.mono StrsS.good (by omega)⟩⟩
  have HF5 : Hid (Firm (w.heap.size + 1 + 1 + 1) (fun u => ValsN w.heap.size u (.slice (some ⟨B1, 0, none⟩) key.length key.length) key ∧ ValsN w.heap.size u (.slice (some ⟨B2, 0, none⟩) row.length row.length) row) w3) := HF4.out.on b3
  have HF6 : Hid (Firm (w.heap.size + 1 + 1 + 1) (fun u => StmtN w.heap.size u #[.int .i64 kind, .string table, .slice (some ⟨B1, 0, none⟩) key.length key.length, .slice (some ⟨B2, 0, none⟩) row.length row.length, .int .i64 dk, .string dt, .slice c1 cs.length q1, .slice o1 ks.length q2, .string dn, .string to] ⟨kind, table, key, row, ⟨dk, dt, cs, ks, dn, to⟩⟩) w3) := (HF5.out.and HZ.out).imp fun u ⟨⟨h1, h2⟩, h3⟩ => by
    obtain ⟨cv, kv, e, h4, h5⟩ := h3
    simp at e
    obtain ⟨rfl, rfl⟩ := e
    exact ⟨_, _, _, _, rfl, h1, h2, h4, h5⟩
  have hb3 := ch_trans hb4 b3
  have HO3 := HO4.on b3
  have HQ3 := HQ4.on b3
  clear hy HZ HF5 HF4 b3 HO4 HQ4 hb4 hs4
  obtain ⟨d0, d1, d2, d3, d4, d5, d6, d7, d8, d9⟩ := HO3.loc.ten
  have f4 := HO3.frozen 4
  have f5 := HO3.frozen 5
  have f6 := HO3.frozen 6
  have f7 := HO3.frozen 7
  have f8 := HO3.frozen 8
  have f9 := HO3.frozen 9
  obtain ⟨g0, g1, g2, g3, g4, g5, g6, g7, g8, g9⟩ := HQ3.loc.ten
  have i0 := HQ3.frozen 0
  have i1 := HQ3.frozen 1
  have i2 := HQ3.frozen 2
  have i3 := HQ3.frozen 3
  have i4 := HQ3.frozen 4
  have i5 := HQ3.frozen 5
  have i6 := HQ3.frozen 6
  have i7 := HQ3.frozen 7
  have i8 := HQ3.frozen 8
  have i9 := HQ3.frozen 9
  go_wp2
  have HQ4 : Own ((((((((((((((((w3.setCell ⟨w.heap.size + 1 + 1, 4, none⟩ (.int .i64 dk)).setCell ⟨w.heap.size + 1 + 1, 5, none⟩ (.string dt)).setCell ⟨w.heap.size + 1 + 1, 6, none⟩ (.slice c1 cs.length q1)).setCell ⟨w.heap.size + 1 + 1, 7, none⟩ (.slice o1 ks.length q2)).setCell ⟨w.heap.size + 1 + 1, 8, none⟩ (.string dn)).setCell ⟨w.heap.size + 1 + 1, 9, none⟩ (.string to)).setCell ⟨w.heap.size + 1, 0, none⟩ (.int .i64 kind)).setCell ⟨w.heap.size + 1, 1, none⟩ (.string table)).setCell ⟨w.heap.size + 1, 2, none⟩ (.slice (some ⟨B1, 0, none⟩) key.length key.length)).setCell ⟨w.heap.size + 1, 3, none⟩ (.slice (some ⟨B2, 0, none⟩) row.length row.length)).setCell ⟨w.heap.size + 1, 4, none⟩ (.int .i64 dk)).setCell ⟨w.heap.size + 1, 5, none⟩ (.string dt)).setCell ⟨w.heap.size + 1, 6, none⟩ (.slice c1 cs.length q1)).setCell ⟨w.heap.size + 1, 7, none⟩ (.slice o1 ks.length q2)).setCell ⟨w.heap.size + 1, 8, none⟩ (.string dn)).setCell ⟨w.heap.size + 1, 9, none⟩ (.string to)) _ _ #[.int .i64 kind, .string table, .slice (some ⟨B1, 0, none⟩) key.length key.length, .slice (some ⟨B2, 0, none⟩) row.length row.length, .int .i64 dk, .string dt, .slice c1 cs.length q1, .slice o1 ks.length q2, .string dn, .string to] := (Own.past (c := w.heap.size + 1 + 1) (by omega) [.int .i64 dk, .string dt, .slice c1 cs.length q1, .slice o1 ks.length q2, .string dn, .string to] _ 4 HQ3).fill (old := [_, _, _, _, _, _, _, _, _, _]) [.int .i64 kind, .string table, .slice (some ⟨B1, 0, none⟩) key.length key.length, .slice (some ⟨B2, 0, none⟩) row.length row.length, .int .i64 dk, .string dt, .slice c1 cs.length q1, .slice o1 ks.length q2, .string dn, .string to] rfl
  have HF7 : Hid (Firm (w.heap.size + 1 + 1 + 1) (fun u => StmtN w.heap.size u #[.int .i64 kind, .string table, .slice (some ⟨B1, 0, none⟩) key.length key.length, .slice (some ⟨B2, 0, none⟩) row.length row.length, .int .i64 dk, .string dt, .slice c1 cs.length q1, .slice o1 ks.length q2, .string dn, .string to] ⟨kind, table, key, row, ⟨dk, dt, cs, ks, dn, to⟩⟩) ((((((((((((((((w3.setCell ⟨w.heap.size + 1 + 1, 4, none⟩ (.int .i64 dk)).setCell ⟨w.heap.size + 1 + 1, 5, none⟩ (.string dt)).setCell ⟨w.heap.size + 1 + 1, 6, none⟩ (.slice c1 cs.length q1)).setCell ⟨w.heap.size + 1 + 1, 7, none⟩ (.slice o1 ks.length q2)).setCell ⟨w.heap.size + 1 + 1, 8, none⟩ (.string dn)).setCell ⟨w.heap.size + 1 + 1, 9, none⟩ (.string to)).setCell ⟨w.heap.size + 1, 0, none⟩ (.int .i64 kind)).setCell ⟨w.heap.size + 1, 1, none⟩ (.string table)).setCell ⟨w.heap.size + 1, 2, none⟩ (.slice (some ⟨B1, 0, none⟩) key.length key.length)).setCell ⟨w.heap.size + 1, 3, none⟩ (.slice (some ⟨B2, 0, none⟩) row.length row.length)).setCell ⟨w.heap.size + 1, 4, none⟩ (.int .i64 dk)).setCell ⟨w.heap.size + 1, 5, none⟩ (.string dt)).setCell ⟨w.heap.size + 1, 6, none⟩ (.slice c1 cs.length q1)).setCell ⟨w.heap.size + 1, 7, none⟩ (.slice o1 ks.length q2)).setCell ⟨w.heap.size + 1, 8, none⟩ (.string dn)).setCell ⟨w.heap.size + 1, 9, none⟩ (.string to))) := Firm.stores (b := w.heap.size + 1) (by omega) [.int .i64 kind, .string table, .slice (some ⟨B1, 0, none⟩) key.length key.length, .slice (some ⟨B2, 0, none⟩) row.length row.length, .int .i64 dk, .string dt, .slice c1 cs.length q1, .slice o1 ks.length q2, .string dn, .string to] _ 0 (Firm.stores (b := w.heap.size + 1 + 1) (by omega) [.int .i64 dk, .string dt, .slice c1 cs.length q1, .slice o1 ks.length q2, .string dn, .string to] _ 4 HF6.out)
  have HB : Hid (Below w.heap.size w ((((((((((((((((w3.setCell ⟨w.heap.size + 1 + 1, 4, none⟩ (.int .i64 dk)).setCell ⟨w.heap.size + 1 + 1, 5, none⟩ (.string dt)).setCell ⟨w.heap.size + 1 + 1, 6, none⟩ (.slice c1 cs.length q1)).setCell ⟨w.heap.size + 1 + 1, 7, none⟩ (.slice o1 ks.length q2)).setCell ⟨w.heap.size + 1 + 1, 8, none⟩ (.string dn)).setCell ⟨w.heap.size + 1 + 1, 9, none⟩ (.string to)).setCell ⟨w.heap.size + 1, 0, none⟩ (.int .i64 kind)).setCell ⟨w.heap.size + 1, 1, none⟩ (.string table)).setCell ⟨w.heap.size + 1, 2, none⟩ (.slice (some ⟨B1, 0, none⟩) key.length key.length)).setCell ⟨w.heap.size + 1, 3, none⟩ (.slice (some ⟨B2, 0, none⟩) row.length row.length)).setCell ⟨w.heap.size + 1, 4, none⟩ (.int .i64 dk)).setCell ⟨w.heap.size + 1, 5, none⟩ (.string dt)).setCell ⟨w.heap.size + 1, 6, none⟩ (.slice c1 cs.length q1)).setCell ⟨w.heap.size + 1, 7, none⟩ (.slice o1 ks.length q2)).setCell ⟨w.heap.size + 1, 8, none⟩ (.string dn)).setCell ⟨w.heap.size + 1, 9, none⟩ (.string to))) := by
    show Below _ _ _
    exact stores_below (b := w.heap.size + 1) (by omega) [.int .i64 kind, .string table, .slice (some ⟨B1, 0, none⟩) key.length key.length, .slice (some ⟨B2, 0, none⟩) row.length row.length, .int .i64 dk, .string dt, .slice c1 cs.length q1, .slice o1 ks.length q2, .string dn, .string to] _ 0 (stores_below (b := w.heap.size + 1 + 1) (by omega) [.int .i64 dk, .string dt, .slice c1 cs.length q1, .slice o1 ks.length q2, .string dn, .string to] _ 4 hb3)
  generalize ((((((((((((((((w3.setCell ⟨w.heap.size + 1 + 1, 4, none⟩ (.int .i64 dk)).setCell ⟨w.heap.size + 1 + 1, 5, none⟩ (.string dt)).setCell ⟨w.heap.size + 1 + 1, 6, none⟩ (.slice c1 cs.length q1)).setCell ⟨w.heap.size + 1 + 1, 7, none⟩ (.slice o1 ks.length q2)).setCell ⟨w.heap.size + 1 + 1, 8, none⟩ (.string dn)).setCell ⟨w.heap.size + 1 + 1, 9, none⟩ (.string to)).setCell ⟨w.heap.size + 1, 0, none⟩ (.int .i64 kind)).setCell ⟨w.heap.size + 1, 1, none⟩ (.string table)).setCell ⟨w.heap.size + 1, 2, none⟩ (.slice (some ⟨B1, 0, none⟩) key.length key.length)).setCell ⟨w.heap.size + 1, 3, none⟩ (.slice (some ⟨B2, 0, none⟩) row.length row.length)).setCell ⟨w.heap.size + 1, 4, none⟩ (.int .i64 dk)).setCell ⟨w.heap.size + 1, 5, none⟩ (.string dt)).setCell ⟨w.heap.size + 1, 6, none⟩ (.slice c1 cs.length q1)).setCell ⟨w.heap.size + 1, 7, none⟩ (.slice o1 ks.length q2)).setCell ⟨w.heap.size + 1, 8, none⟩ (.string dn)).setCell ⟨w.heap.size + 1, 9, none⟩ (.string to)) = W at HQ4 HB HF7 ⊢
  obtain ⟨e0, e1, e2, e3, e4, e5, e6, e7, e8, e9⟩ := HQ4.loc.ten
  exact bodyPost_ret (v := .agg #[.int .i64 kind, .string table, .slice (some ⟨B1, 0, none⟩) key.length key.length, .slice (some ⟨B2, 0, none⟩) row.length row.length, .int .i64 dk, .string dt, .slice c1 cs.length q1, .slice o1 ks.length q2, .string dn, .string to]) (by simp [results, Tryz.results105, go_sem, e0, e1, e2, e3, e4, e5, e6, e7, e8, e9]) rfl ⟨_, rfl, HB.out, HF7.out.mono (by omega)⟩
end Go.Proofs.YtiijahoheajppaaGreat
