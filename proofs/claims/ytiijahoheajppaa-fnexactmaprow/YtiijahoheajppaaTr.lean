/- Shapes in memory, and marks that keep them. -/
import Derived.Test.YtiijahoheajppaaCn
import Derived.Test.YtiijahoheajppaaHeldS
namespace Go.Proofs.Ytiijahoheajppaa
open Go.ChangeShapes Go.WideShapes Go.ChangeAt Go.RowKit

/-- A cell that may have been marked. -/
def kind1 (u v : Value) : Prop := u = v ∨ (∃ a b, u = .int .i64 a ∧ v = .int .i64 b) ∨ (∃ a b, u = .string a ∧ v = .string b) ∨ (∃ a b, u = .bool a ∧ v = .bool b)
theorem kind1.refl (u : Value) : kind1 u u := Or.inl rfl
theorem kind1.trans {u v x : Value} (h : kind1 u v) (k : kind1 v x) : kind1 u x := by
  rcases h with rfl | ⟨a, b, rfl, rfl⟩ | ⟨a, b, rfl, rfl⟩ | ⟨a, b, rfl, rfl⟩
  · exact k
  all_goals
    rcases k with rfl | ⟨c, d, e, rfl⟩ | ⟨c, d, e, rfl⟩ | ⟨c, d, e, rfl⟩
    all_goals first
      | (cases e; done)
      | exact Or.inr (Or.inl ⟨_, _, rfl, rfl⟩)
      | exact Or.inr (Or.inr (Or.inl ⟨_, _, rfl, rfl⟩))
      | exact Or.inr (Or.inr (Or.inr ⟨_, _, rfl, rfl⟩))
theorem kind1.slice {a : Option Addr} {n c : Nat} {v : Value} (h : kind1 (.slice a n c) v) : v = .slice a n c := by
  rcases h with h | ⟨_, _, h, _⟩ | ⟨_, _, h, _⟩ | ⟨_, _, h, _⟩
  · exact h.symm
  all_goals cases h
theorem rowIs_one {w : World} {b : Nat} {T T' : TypeId} {m m' : Nat} {f f' : Nat → Value} (h : w.rowIs b T m f) (k : w.rowIs b T' m' f') : T' = T ∧ m' = m ∧ ∀ i, i < m → f' i = f i := by
  obtain ⟨c, h1, h2, h3⟩ := h
  obtain ⟨c', k1, k2, k3⟩ := k
  rw [h1] at k1
  cases k1
  refine ⟨rfl, by omega, fun i hi => ?_⟩
  have := h3 i hi
  rw [k3 i (by omega)] at this
  exact Option.some.inj this
/-- Blocks of S may have been marked, nothing else has turned. -/
structure Marks (S : Nat → Prop) (w w' : World) : Prop where
  turns : Turns S w w'
  kinds : ∀ b T m f, S b → w.rowIs b T m f → ∃ f', w'.rowIs b T m f' ∧ ∀ i, i < m → kind1 (f i) (f' i)
theorem Marks.refl (S : Nat → Prop) (w : World) : Marks S w w := ⟨Turns.refl _ _, fun _ _ _ f _ h => ⟨f, h, fun _ _ => kind1.refl _⟩⟩
theorem Marks.trans {S : Nat → Prop} {a b c : World} (h : Marks S a b) (k : Marks S b c) : Marks S a c :=
  ⟨h.turns.trans k.turns, fun x T m f hx hr => by
    obtain ⟨f1, h1, h2⟩ := h.kinds x T m f hx hr
    obtain ⟨f2, k1, k2⟩ := k.kinds x T m f1 hx h1
    exact ⟨f2, k1, fun i hi => (h2 i hi).trans (k2 i hi)⟩⟩
theorem Marks.below {S : Nat → Prop} {a b c : World} (h : Marks S a b) (k : Below b.heap.size b c) : Marks S a c :=
  ⟨h.turns.below k, fun x T m f hx hr => by
    obtain ⟨f1, h1, h2⟩ := h.kinds x T m f hx hr
    exact ⟨f1, h1.of_block (k.block x h1.lt), h2⟩⟩
theorem Marks.mono {S S' : Nat → Prop} {a b : World} (h : Marks S a b) (hs : ∀ c, S c → S' c) : Marks S' a b :=
  ⟨h.turns.mono hs, fun x T m f hx hr => by
    by_cases hS : S x
    · exact h.kinds x T m f hS hr
    · exact ⟨f, hr.of_block (h.turns.block x hr.lt hS), fun _ _ => kind1.refl _⟩⟩
/-- One block marked. -/
theorem Marks.one {S : Nat → Prop} {w w' : World} {b : Nat} {T : TypeId} {m : Nat} {f f' : Nat → Value} (hb : S b) (h : Turns (· = b) w w') (hr : w.rowIs b T m f) (hr' : w'.rowIs b T m f') (hk : ∀ i, i < m → kind1 (f i) (f' i)) : Marks S w w' :=
  ⟨h.mono fun c e => e ▸ hb, fun x T' m' g hx hg => by
    by_cases e : x = b
    · subst e
      obtain ⟨rfl, rfl, h3⟩ := rowIs_one hr hg
      exact ⟨f', hr', fun i hi => by rw [h3 i hi]; exact hk i hi⟩
    · exact ⟨g, hg.of_block (h.block x hg.lt e), fun _ _ => kind1.refl _⟩⟩
theorem Marks.set {S : Nat → Prop} {w : World} {b : Nat} {T : TypeId} {m : Nat} {f : Nat → Value} (hb : S b) (hr : w.rowIs b T m f) {j : Nat} {u : Value} (hk : j < m → kind1 (f j) u) : Marks S w (w.setCell ⟨b, j, none⟩ u) :=
  Marks.one hb ((Turns.refl (· = b) w).set (p := ⟨b, j, none⟩) rfl u) hr (hr.set j u) fun i hi => by
    by_cases e : i = j
    · subst e; simpa using hk hi
    · simp only [if_neg e]; exact kind1.refl _

/-- What a cell holds, and what lies behind it. -/
abbrev Shape := World → Value → Prop
def IntS : Shape := fun _ v => ∃ n, v = .int .i64 n
def StrS : Shape := fun _ v => ∃ s, v = .string s
def BoolS : Shape := fun _ v => ∃ b, v = .bool b
/-- A whole block of elements, in S. -/
def RowS (S : Nat → Prop) (T : TypeId) (es : List Shape) : Shape := fun w v => ∃ b n cap f, v = .slice (some ⟨b, 0, none⟩) n cap ∧ S b ∧ n ≤ 1048576 ∧ w.rowIs b T (n * es.length) f ∧ ∀ i, i < n → ∀ j (h : j < es.length), es[j] w (f (i * es.length + j))
/-- Marks keep it. -/
def Stays (S : Nat → Prop) (P : Shape) : Prop := ∀ w w' u u', Marks S w w' → kind1 u u' → P w u → P w' u'
theorem IntS.stays (S : Nat → Prop) : Stays S IntS := fun w w' u u' _ hk ⟨n, e⟩ => by
  subst e
  rcases hk with rfl | ⟨a, b, _, rfl⟩ | ⟨_, _, h, _⟩ | ⟨_, _, h, _⟩
  · exact ⟨n, rfl⟩
  · exact ⟨b, rfl⟩
  all_goals cases h
theorem StrS.stays (S : Nat → Prop) : Stays S StrS := fun w w' u u' _ hk ⟨n, e⟩ => by
  subst e
  rcases hk with rfl | ⟨_, _, h, _⟩ | ⟨a, b, _, rfl⟩ | ⟨_, _, h, _⟩
  · exact ⟨n, rfl⟩
  · cases h
  · exact ⟨b, rfl⟩
  · cases h
theorem BoolS.stays (S : Nat → Prop) : Stays S BoolS := fun w w' u u' _ hk ⟨n, e⟩ => by
  subst e
  rcases hk with rfl | ⟨_, _, h, _⟩ | ⟨_, _, h, _⟩ | ⟨a, b, _, rfl⟩
  · exact ⟨n, rfl⟩
  · cases h
  · cases h
  · exact ⟨b, rfl⟩
theorem RowS.stays {S : Nat → Prop} {T : TypeId} {es : List Shape} (he : ∀ j (h : j < es.length), Stays S es[j]) : Stays S (RowS S T es) := fun w w' u u' hm hk ⟨b, n, cap, f, e, hb, hn, hr, hf⟩ => by
  subst e
  obtain rfl := hk.slice
  obtain ⟨f', hr', hk'⟩ := hm.kinds b T _ f hb hr
  refine ⟨b, n, cap, f', rfl, hb, hn, hr', fun i hi j hj => he j hj w w' _ _ hm (hk' _ ?_) (hf i hi j hj)⟩
  have : (i + 1) * es.length ≤ n * es.length := Nat.mul_le_mul_right _ (by omega)
  rw [Nat.add_mul, Nat.one_mul] at this
  omega
/-- Growing keeps it. -/
def Keeps (P : Shape) : Prop := ∀ w w' u, Below w.heap.size w w' → P w u → P w' u
theorem IntS.keeps : Keeps IntS := fun _ _ _ _ h => h
theorem StrS.keeps : Keeps StrS := fun _ _ _ _ h => h
theorem BoolS.keeps : Keeps BoolS := fun _ _ _ _ h => h
theorem RowS.keeps {S : Nat → Prop} {T : TypeId} {es : List Shape} (he : ∀ j (h : j < es.length), Keeps es[j]) : Keeps (RowS S T es) := fun w w' _ hb ⟨b, n, cap, f, e, hS, hn, hr, hf⟩ =>
  ⟨b, n, cap, f, e, hS, hn, hr.of_block (hb.block b hr.lt), fun i hi j hj => he j hj w w' _ hb (hf i hi j hj)⟩
theorem RowS.mono {S S' : Nat → Prop} {T : TypeId} {es es' : List Shape} (hs : ∀ c, S c → S' c) (hl : es.length = es'.length) (he : ∀ j (h : j < es.length) (h' : j < es'.length) w u, es[j] w u → es'[j] w u) {w : World} {v : Value} (h : RowS S T es w v) : RowS S' T es' w v := by
  obtain ⟨b, n, cap, f, e, hS, hn, hr, hf⟩ := h
  refine ⟨b, n, cap, f, e, hs b hS, hn, by rw [← hl]; exact hr, fun i hi j hj => ?_⟩
  rw [← hl]
  exact he j (by omega) hj _ _ (hf i hi j (by omega))
/-- The shapes of the program's lists. -/
def ValsS (S : Nat → Prop) : Shape := RowS S 58 [IntS, IntS, StrS]
def ColsS (S : Nat → Prop) : Shape := RowS S 60 [StrS, IntS, BoolS, BoolS, IntS, IntS, StrS]
def StrsS (S : Nat → Prop) : Shape := RowS S 9 [StrS]
def RowsS (S : Nat → Prop) : Shape := RowS S 41 [ValsS S]
def TabsS (S : Nat → Prop) : Shape := RowS S 32 [StrS, ColsS S, StrsS S]
theorem ValsS.stays (S : Nat → Prop) : Stays S (ValsS S) := RowS.stays fun j h => by
  match j, h with
  | 0, _ => exact IntS.stays S
  | 1, _ => exact IntS.stays S
  | 2, _ => exact StrS.stays S
theorem ColsS.stays (S : Nat → Prop) : Stays S (ColsS S) := RowS.stays fun j h => by
  match j, h with
  | 0, _ => exact StrS.stays S
  | 1, _ => exact IntS.stays S
  | 2, _ => exact BoolS.stays S
  | 3, _ => exact BoolS.stays S
  | 4, _ => exact IntS.stays S
  | 5, _ => exact IntS.stays S
  | 6, _ => exact StrS.stays S
theorem StrsS.stays (S : Nat → Prop) : Stays S (StrsS S) := RowS.stays fun j h => by
  match j, h with
  | 0, _ => exact StrS.stays S
theorem RowsS.stays (S : Nat → Prop) : Stays S (RowsS S) := RowS.stays fun j h => by
  match j, h with
  | 0, _ => exact ValsS.stays S
theorem TabsS.stays (S : Nat → Prop) : Stays S (TabsS S) := RowS.stays fun j h => by
  match j, h with
  | 0, _ => exact StrS.stays S
  | 1, _ => exact ColsS.stays S
  | 2, _ => exact StrsS.stays S
end Go.Proofs.Ytiijahoheajppaa
