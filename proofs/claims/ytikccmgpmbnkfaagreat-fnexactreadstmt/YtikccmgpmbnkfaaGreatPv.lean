/- Shapes in memory, and marks that keep them. Lists of numbers of a call's own: looked at, marked, held. Places that a law marks: what they are, what stands there afterwards. Places of rows of values, columns and texts: marked, held. -/
import Derived.Test.YtikccmgpmbnkfaaGreatMarkG
import Derived.Test.YtikccmgpmbnkfaaGreatHeldS
import Derived.Test.YtikccmgpmbnkfaaGreatPn
import Derived.Test.YtikccmgpmbnkfaaGreatWm
namespace Go.Proofs.YtikccmgpmbnkfaaGreat
open Go.ChangeShapes Go.WideShapes Go.ChangeAt Go.RowKit

/-- A cell that may have been marked. -/
def kind1 (u v : Value) : Prop := u = v ∨ (∃ a b, u = .int .i64 a ∧ v = .int .i64 b) ∨ (∃ a b, u = .string a ∧ v = .string b) ∨ (∃ a b, u = .bool a ∧ v = .bool b)
theorem kind1.refl (u : Value) : kind1 u u := Or.inl rfl
theorem kind1.trans {u v x : Value} (h : kind1 u v) (k : kind1 v x) : kind1 u x := by
  rcases h with rfl | ⟨a, b, rfl, rfl⟩ | ⟨a, b, rfl, rfl⟩ | ⟨a, b, rfl, rfl⟩
  · exact k
  all_goals
    rcases k with rfl | ⟨c, d, e, rfl⟩ | ⟨c, d, e, rfl⟩ | ⟨c, d, e, rfl⟩
    all_goals first
      | (cases e; done)
      | exact Or.inr (Or.inl ⟨_, _, rfl, rfl⟩)
      | exact Or.inr (Or.inr (Or.inl ⟨_, _, rfl, rfl⟩))
      | exact Or.inr (Or.inr (Or.inr ⟨_, _, rfl, rfl⟩))
theorem kind1.slice {a : Option Addr} {n c : Nat} {v : Value} (h : kind1 (.slice a n c) v) : v = .slice a n c := by
  rcases h with h | ⟨_, _, h, _⟩ | ⟨_, _, h, _⟩ | ⟨_, _, h, _⟩
  · exact h.symm
  all_goals cases h
theorem rowIs_one {w : World} {b : Nat} {T T' : TypeId} {m m' : Nat} {f f' : Nat → Value} (h : w.rowIs b T m f) (k : w.rowIs b T' m' f') : T' = T ∧ m' = m ∧ ∀ i, i < m → f' i = f i := by
  obtain ⟨c, h1, h2, h3⟩ := h
  obtain ⟨c', k1, k2, k3⟩ := k
  rw [h1] at k1
  cases k1
  refine ⟨rfl, by omega, fun i hi => ?_⟩
  have := h3 i hi
  rw [k3 i (by omega)] at this
  exact Option.some.inj this
/-- Blocks of S may have been marked, nothing else has turned. -/
structure Marks (S : Nat → Prop) (w w' : World) : Prop where
  turns : Turns S w w'
  kinds : ∀ b T m f, S b → w.rowIs b T m f → ∃ f', w'.rowIs b T m f' ∧ ∀ i, i < m → kind1 (f i) (f' i)
theorem Marks.refl (S : Nat → Prop) (w : World) : Marks S w w := ⟨Turns.refl _ _, fun _ _ _ f _ h => ⟨f, h, fun _ _ => kind1.refl _⟩⟩
theorem Marks.trans {S : Nat → Prop} {a b c : World} (h : Marks S a b) (k : Marks S b c) : Marks S a c :=
  ⟨h.turns.trans k.turns, fun x T m f hx hr => by
    obtain ⟨f1, h1, h2⟩ := h.kinds x T m f hx hr
    obtain ⟨f2, k1, k2⟩ := k.kinds x T m f1 hx h1
    exact ⟨f2, k1, fun i hi => (h2 i hi).trans (k2 i hi)⟩⟩
theorem Marks.below {S : Nat → Prop} {a b c : World} (h : Marks S a b) (k : Below b.heap.size b c) : Marks S a c :=
  ⟨h.turns.below k, fun x T m f hx hr => by
    obtain ⟨f1, h1, h2⟩ := h.kinds x T m f hx hr
    exact ⟨f1, h1.of_block (k.block x h1.lt), h2⟩⟩
theorem Marks.mono {S S' : Nat → Prop} {a b : World} (h : Marks S a b) (hs : ∀ c, S c → S' c) : Marks S' a b :=
  ⟨h.turns.mono hs, fun x T m f hx hr => by
    by_cases hS : S x
    · exact h.kinds x T m f hS hr
    · exact ⟨f, hr.of_block (h.turns.block x hr.lt hS), fun _ _ => kind1.refl _⟩⟩
/-- One block marked. -/
theorem Marks.one {S : Nat → Prop} {w w' : World} {b : Nat} {T : TypeId} {m : Nat} {f f' : Nat → Value} (hb : S b) (h : Turns (· = b) w w') (hr : w.rowIs b T m f) (hr' : w'.rowIs b T m f') (hk : ∀ i, i < m → kind1 (f i) (f' i)) : Marks S w w' :=
  ⟨h.mono fun c e => e ▸ hb, fun x T' m' g hx hg => by
    by_cases e : x = b
    · subst e
      obtain ⟨rfl, rfl, h3⟩ := rowIs_one hr hg
      exact ⟨f', hr', fun i hi => by rw [h3 i hi]; exact hk i hi⟩
    · exact ⟨g, hg.of_block (h.block x hg.lt e), fun _ _ => kind1.refl _⟩⟩
theorem Marks.set {S : Nat → Prop} {w : World} {b : Nat} {T : TypeId} {m : Nat} {f : Nat → Value} (hb : S b) (hr : w.rowIs b T m f) {j : Nat} {u : Value} (hk : j < m → kind1 (f j) u) : Marks S w (w.setCell ⟨b, j, none⟩ u) :=
  Marks.one hb ((Turns.refl (· = b) w).set (p := ⟨b, j, none⟩) rfl u) hr (hr.set j u) fun i hi => by
    by_cases e : i = j
    · subst e; simpa using hk hi
    · simp only [if_neg e]; exact kind1.refl _

/-- What a cell holds, and what lies behind it. -/
abbrev Shape := World → Value → Prop
def IntS : Shape := fun _ v => ∃ n, v = .int .i64 n
def StrS : Shape := fun _ v => ∃ s, v = .string s
def BoolS : Shape := fun _ v => ∃ b, v = .bool b
/-- A whole block of elements, in S. -/
def RowS (S : Nat → Prop) (T : TypeId) (es : List Shape) : Shape := fun w v => ∃ b n cap f, v = .slice (some ⟨b, 0, none⟩) n cap ∧ S b ∧ n ≤ 1048576 ∧ w.rowIs b T (n * es.length) f ∧ ∀ i, i < n → ∀ j (h : j < es.length), es[j] w (f (i * es.length + j))
/-- Marks keep it. -/
def Stays (S : Nat → Prop) (P : Shape) : Prop := ∀ w w' u u', Marks S w w' → kind1 u u' → P w u → P w' u'
theorem IntS.stays (S : Nat → Prop) : Stays S IntS := fun w w' u u' _ hk ⟨n, e⟩ => by
  subst e
  rcases hk with rfl | ⟨a, b, _, rfl⟩ | ⟨_, _, h, _⟩ | ⟨_, _, h, _⟩
  · exact ⟨n, rfl⟩
  · exact ⟨b, rfl⟩
  all_goals cases h
theorem StrS.stays (S : Nat → Prop) : Stays S StrS := fun w w' u u' _ hk ⟨n, e⟩ => by
  subst e
  rcases hk with rfl | ⟨_, _, h, _⟩ | ⟨a, b, _, rfl⟩ | ⟨_, _, h, _⟩
  · exact ⟨n, rfl⟩
  · cases h
  · exact ⟨b, rfl⟩
  · cases h
theorem BoolS.stays (S : Nat → Prop) : Stays S BoolS := fun w w' u u' _ hk ⟨n, e⟩ => by
  subst e
  rcases hk with rfl | ⟨_, _, h, _⟩ | ⟨_, _, h, _⟩ | ⟨a, b, _, rfl⟩
  · exact ⟨n, rfl⟩
  · cases h
  · cases h
  · exact ⟨b, rfl⟩
theorem RowS.stays {S : Nat → Prop} {T : TypeId} {es : List Shape} (he : ∀ j (h : j < es.length), Stays S es[j]) : Stays S (RowS S T es) := fun w w' u u' hm hk ⟨b, n, cap, f, e, hb, hn, hr, hf⟩ => by
  subst e
  obtain rfl := hk.slice
  obtain ⟨f', hr', hk'⟩ := hm.kinds b T _ f hb hr
  refine ⟨b, n, cap, f', rfl, hb, hn, hr', fun i hi j hj => he j hj w w' _ _ hm (hk' _ ?_) (hf i hi j hj)⟩
  have : (i + 1) * es.length ≤ n * es.length := Nat.mul_le_mul_right _ (by omega)
  rw [Nat.add_mul, Nat.one_mul] at this
  omega
/-- Growing keeps it. -/
def Keeps (P : Shape) : Prop := ∀ w w' u, Below w.heap.size w w' → P w u → P w' u
theorem IntS.keeps : Keeps IntS := fun _ _ _ _ h => h
theorem StrS.keeps : Keeps StrS := fun _ _ _ _ h => h
theorem BoolS.keeps : Keeps BoolS := fun _ _ _ _ h => h
theorem RowS.keeps {S : Nat → Prop} {T : TypeId} {es : List Shape} (he : ∀ j (h : j < es.length), Keeps es[j]) : Keeps (RowS S T es) := fun w w' _ hb ⟨b, n, cap, f, e, hS, hn, hr, hf⟩ =>
  ⟨b, n, cap, f, e, hS, hn, hr.of_block (hb.block b hr.lt), fun i hi j hj => he j hj w w' _ hb (hf i hi j hj)⟩
theorem RowS.mono {S S' : Nat → Prop} {T : TypeId} {es es' : List Shape} (hs : ∀ c, S c → S' c) (hl : es.length = es'.length) (he : ∀ j (h : j < es.length) (h' : j < es'.length) w u, es[j] w u → es'[j] w u) {w : World} {v : Value} (h : RowS S T es w v) : RowS S' T es' w v := by
  obtain ⟨b, n, cap, f, e, hS, hn, hr, hf⟩ := h
  refine ⟨b, n, cap, f, e, hs b hS, hn, by rw [← hl]; exact hr, fun i hi j hj => ?_⟩
  rw [← hl]
  exact he j (by omega) hj _ _ (hf i hi j (by omega))
/-- The shapes of the program's lists. -/
def ValsS (S : Nat → Prop) : Shape := RowS S 128 [IntS, IntS, StrS]
def ColsS (S : Nat → Prop) : Shape := RowS S 131 [StrS, IntS, BoolS, BoolS, IntS, IntS, StrS]
def StrsS (S : Nat → Prop) : Shape := RowS S 9 [StrS]
def RowsS (S : Nat → Prop) : Shape := RowS S 42 [ValsS S]
def TabsS (S : Nat → Prop) : Shape := RowS S 177 [StrS, ColsS S, StrsS S]
theorem ValsS.stays (S : Nat → Prop) : Stays S (ValsS S) := RowS.stays fun j h => by
  match j, h with
  | 0, _ => exact IntS.stays S
  | 1, _ => exact IntS.stays S
  | 2, _ => exact StrS.stays S
theorem ColsS.stays (S : Nat → Prop) : Stays S (ColsS S) := RowS.stays fun j h => by
  match j, h with
  | 0, _ => exact StrS.stays S
  | 1, _ => exact IntS.stays S
  | 2, _ => exact BoolS.stays S
  | 3, _ => exact BoolS.stays S
  | 4, _ => exact IntS.stays S
  | 5, _ => exact IntS.stays S
  | 6, _ => exact StrS.stays S
theorem StrsS.stays (S : Nat → Prop) : Stays S (StrsS S) := RowS.stays fun j h => by
  match j, h with
  | 0, _ => exact StrS.stays S
theorem RowsS.stays (S : Nat → Prop) : Stays S (RowsS S) := RowS.stays fun j h => by
  match j, h with
  | 0, _ => exact ValsS.stays S
theorem TabsS.stays (S : Nat → Prop) : Stays S (TabsS S) := RowS.stays fun j h => by
  match j, h with
  | 0, _ => exact StrS.stays S
  | 1, _ => exact ColsS.stays S
  | 2, _ => exact StrsS.stays S
end Go.Proofs.YtikccmgpmbnkfaaGreat

namespace Go.Proofs.YtikccmgpmbnkfaaGreat
open Go.ChangeShapes Go.WideShapes Go.ChangeAt Go.RowKit

/-- The mark of a number at a place. -/
abbrev markN (k i : Nat) : Value := .int .i64 ((k + i : Nat) : Int)
end Go.Proofs.YtikccmgpmbnkfaaGreat

namespace Go.Proofs.YtikccmgpmbnkfaaGreat
open Go.ChangeShapes Go.WideShapes Go.ChangeAt Go.RowKit

/-- A place, and what is marked there: 0 a number, 1 a text, 2 a yes or no. -/
abbrev Plc := Addr × Nat
/-- The mark. -/
def mkV (κ k : Nat) : Value := match κ with | 0 => .int .i64 (k : Int) | 1 => .string (markB k) | _ => .bool (k % 3 == 0)
/-- What stands where such a mark comes. -/
def leafK (κ : Nat) (v : Value) : Prop := match κ with | 0 => ∃ a, v = .int .i64 a | 1 => ∃ s, v = .string s | _ => ∃ b, v = .bool b
theorem mkV_kind {κ k : Nat} {v : Value} (h : leafK κ v) : kind1 v (mkV κ k) := by
  match κ, h with
  | 0, ⟨a, e⟩ => exact Or.inr (Or.inl ⟨_, _, e, rfl⟩)
  | 1, ⟨a, e⟩ => exact Or.inr (Or.inr (Or.inl ⟨_, _, e, rfl⟩))
  | n + 2, ⟨a, e⟩ => exact Or.inr (Or.inr (Or.inr ⟨_, _, e, rfl⟩))
theorem leafK_stay {κ : Nat} {u v : Value} (h : leafK κ u) (k : kind1 u v) : leafK κ v := by
  rcases k with rfl | ⟨a, b, rfl, rfl⟩ | ⟨a, b, rfl, rfl⟩ | ⟨a, b, rfl, rfl⟩
  · exact h
  all_goals
    match κ, h with
    | 0, ⟨a, e⟩ => first | (cases e; done) | exact ⟨_, rfl⟩
    | 1, ⟨a, e⟩ => first | (cases e; done) | exact ⟨_, rfl⟩
    | n + 2, ⟨a, e⟩ => first | (cases e; done) | exact ⟨_, rfl⟩
/-- The places ps are marked from k on, nothing else has turned. -/
structure Mk (w wr : World) (k : Nat) (ps : List Plc) : Prop where
  marks : Marks (fun c => ∃ p ∈ ps, p.1.block = c) w wr
  cell : ∀ a : Addr, a.block < w.heap.size → a ∉ ps.map (·.1) → wr.cell? a = w.cell? a
  done : ∀ j (h : j < ps.length), wr.cell? ps[j].1 = some (mkV ps[j].2 (k + j))
theorem Mk.refl (w : World) (k : Nat) : Mk w w k [] := ⟨Marks.refl _ _, fun _ _ _ => rfl, fun j h => by simp at h⟩
theorem Mk.below {w wr wr' : World} {k : Nat} {ps : List Plc} (h : Mk w wr k ps) (b : Below wr.heap.size wr wr') : Mk w wr' k ps :=
  ⟨h.marks.below b, fun a ha hn => (b.cell (Nat.lt_of_lt_of_le ha h.marks.turns.size)).trans (h.cell a ha hn), fun j hj => cell_on (h.done j hj) b⟩
/-- A block of before, afterwards. -/
theorem Mk.row {w wr : World} {k : Nat} {ps : List Plc} (h : Mk w wr k ps) {b : Nat} {T : TypeId} {m : Nat} {f : Nat → Value} (hr : w.rowIs b T m f) : ∃ f', wr.rowIs b T m f' ∧ ∀ i, i < m → kind1 (f i) (f' i) := by
  by_cases hb : ∃ p ∈ ps, p.1.block = b
  · exact h.marks.kinds b T m f hb hr
  · exact ⟨f, hr.of_block (h.marks.turns.block b hr.lt hb), fun _ _ => kind1.refl _⟩
theorem Mk.trans {w u wr : World} {k : Nat} {ps qs : List Plc} (h : Mk w u k ps) (g : Mk u wr (k + ps.length) qs) (hps : ∀ p ∈ ps, p.1.block < u.heap.size) (hd : ∀ p ∈ ps, p.1 ∉ qs.map (·.1)) : Mk w wr k (ps ++ qs) := by
  refine ⟨(h.marks.mono fun c ⟨p, hp, e⟩ => ⟨p, by simp [hp], e⟩).trans (g.marks.mono fun c ⟨p, hp, e⟩ => ⟨p, by simp [hp], e⟩), fun a ha hn => ?_, fun j hj => ?_⟩
  · rw [List.map_append, List.mem_append, not_or] at hn
    exact (g.cell a (Nat.lt_of_lt_of_le ha h.marks.turns.size) hn.2).trans (h.cell a ha hn.1)
  · by_cases hl : j < ps.length
    · simp only [List.getElem_append_left hl]
      exact (g.cell _ (hps _ (List.getElem_mem hl)) (hd _ (List.getElem_mem hl))).trans (h.done j hl)
    · simp only [List.length_append] at hj
      simp only [List.getElem_append_right (Nat.le_of_not_lt hl)]
      have := g.done (j - ps.length) (by omega)
      rwa [show k + ps.length + (j - ps.length) = k + j by omega] at this
/-- One place marked. -/
theorem Mk.one {w : World} {k κ b o : Nat} {T : TypeId} {m : Nat} {f : Nat → Value} (hr : w.rowIs b T m f) (ho : o < m) (hκ : leafK κ (f o)) : Mk w (w.setCell ⟨b, o, none⟩ (mkV κ k)) k [(⟨b, o, none⟩, κ)] := by
  refine ⟨Marks.set ⟨(⟨b, o, none⟩, κ), by simp, rfl⟩ hr fun _ => mkV_kind hκ, fun a ha hn => ?_, fun j hj => ?_⟩
  · rw [World.cell?_setCell_other]
    exact fun e => hn (by simp [← e])
  · simp at hj; subst hj
    simpa using World.cell?_setCell_same w _ _ (hr.cell ho)
/-- Places gathered cell by cell. -/
abbrev upTo (qs : Nat → List Plc) (c : Nat) : List Plc := (List.range c).flatMap qs
theorem upTo_succ (qs : Nat → List Plc) (c : Nat) : upTo qs (c + 1) = upTo qs c ++ qs c := by simp [upTo, List.range_succ]
theorem upTo_len (qs : Nat → List Plc) (c : Nat) : (upTo qs (c + 1)).length = (upTo qs c).length + (qs c).length := by rw [upTo_succ, List.length_append]
theorem upTo_sub (qs : Nat → List Plc) {c d : Nat} (h : c ≤ d) : ∃ r, upTo qs d = upTo qs c ++ r := by
  induction d with
  | zero => obtain rfl : c = 0 := by omega
            exact ⟨[], by simp⟩
  | succ d ih =>
    by_cases e : c = d + 1
    · subst e; exact ⟨[], by simp⟩
    · obtain ⟨r, hr⟩ := ih (by omega)
      exact ⟨r ++ qs d, by rw [upTo_succ, hr, List.append_assoc]⟩
theorem upTo_apart {qs : Nat → List Plc} {M c : Nat} (hn : ((upTo qs M).map (·.1)).Nodup) (hc : c < M) : ∀ p ∈ upTo qs c, p.1 ∉ (qs c).map (·.1) := by
  intro p hp hq
  obtain ⟨r, hr⟩ := upTo_sub qs (show c + 1 ≤ M from hc)
  rw [hr, upTo_succ, List.map_append, List.map_append, List.nodup_append, List.nodup_append] at hn
  exact hn.1.2.2 _ (List.mem_map.2 ⟨p, hp, rfl⟩) _ hq rfl
theorem upTo_mono (qs : Nat → List Plc) {c d : Nat} (h : c ≤ d) : (upTo qs c).length ≤ (upTo qs d).length := by
  obtain ⟨r, hr⟩ := upTo_sub qs h
  rw [hr, List.length_append]; omega
theorem upTo_le {L : Nat} (qs : Nat → List Plc) : ∀ M, (∀ c, c < M → (qs c).length ≤ L) → (upTo qs M).length ≤ M * L
  | 0, _ => by simp
  | M + 1, h => by
    have h1 := upTo_le qs M fun c hc => h c (by omega)
    have h2 := h M (by omega)
    rw [upTo_len, Nat.add_mul, Nat.one_mul]; omega
theorem upTo_nodup {qs : Nat → List Plc} {M c : Nat} (hn : ((upTo qs M).map (·.1)).Nodup) (hc : c < M) : ((qs c).map (·.1)).Nodup := by
  obtain ⟨r, hr⟩ := upTo_sub qs (show c + 1 ≤ M from hc)
  rw [hr, upTo_succ, List.map_append, List.map_append, List.nodup_append, List.nodup_append] at hn
  exact hn.1.2.1
/-- One cell more: a place. -/
theorem Mk.leaf {w W : World} {k b c : Nat} {κ : Nat} {T : TypeId} {m M : Nat} {f : Nat → Value} {qs : Nat → List Plc} (h : Mk w W k (upTo qs c)) (hr : w.rowIs b T m f) (hc : c < m) (hM : c < M) (hκ : leafK κ (f c)) (hq : qs c = [(⟨b, c, none⟩, κ)]) (hn : ((upTo qs M).map (·.1)).Nodup) (hb : ∀ p ∈ upTo qs M, p.1.block < w.heap.size) {u : Value} (hu : u = mkV κ (k + (upTo qs c).length)) : Mk w (W.setCell ⟨b, c, none⟩ u) k (upTo qs (c + 1)) := by
  subst hu
  obtain ⟨f', hr', hk⟩ := h.row hr
  rw [upTo_succ, hq]
  refine h.trans (Mk.one hr' hc (leafK_stay hκ (hk c hc))) (fun p hp => ?_) (fun p hp => ?_)
  · obtain ⟨r, hr2⟩ := upTo_sub qs (Nat.le_of_lt hM)
    exact Nat.lt_of_lt_of_le (hb p (by rw [hr2]; simp [hp])) h.marks.turns.size
  · have := upTo_apart hn hM p hp
    rwa [hq] at this
/-- One cell more: what lies behind it. -/
theorem Mk.nest {w W W' : World} {k c M : Nat} {qs : Nat → List Plc} (h : Mk w W k (upTo qs c)) (g : Mk W W' (k + (upTo qs c).length) (qs c)) (hM : c < M) (hn : ((upTo qs M).map (·.1)).Nodup) (hb : ∀ p ∈ upTo qs M, p.1.block < w.heap.size) : Mk w W' k (upTo qs (c + 1)) := by
  rw [upTo_succ]
  refine h.trans g (fun p hp => ?_) (upTo_apart hn hM)
  obtain ⟨r, hr2⟩ := upTo_sub qs (Nat.le_of_lt hM)
  exact Nat.lt_of_lt_of_le (hb p (by rw [hr2]; simp [hp])) h.marks.turns.size
/-- The places are marked. -/
def Marked (w : World) (k : Nat) (ps : List Plc) : Prop := ∀ j (h : j < ps.length), w.cell? ps[j].1 = some (mkV ps[j].2 (k + j))
theorem Marked.on {w w' : World} {k : Nat} {ps : List Plc} (h : Marked w k ps) (b : Below w.heap.size w w') : Marked w' k ps := fun j hj => cell_on (h j hj) b
theorem Marked.at {w : World} {k M c : Nat} {qs : Nat → List Plc} (h : Marked w k (upTo qs M)) (hc : c < M) : Marked w (k + (upTo qs c).length) (qs c) := by
  intro j hj
  obtain ⟨r, hr⟩ := upTo_sub qs (show c + 1 ≤ M from hc)
  have h1 := h ((upTo qs c).length + j) (by rw [hr, upTo_succ, List.length_append, List.length_append]; omega)
  have e : (upTo qs M)[(upTo qs c).length + j]'(by rw [hr, upTo_succ, List.length_append, List.length_append]; omega) = (qs c)[j] := by
    simp only [hr, upTo_succ, List.append_assoc]
    rw [List.getElem_append_right (by omega), List.getElem_append_left (by omega)]
    simp
  rw [e] at h1
  rw [h1, Nat.add_assoc]
theorem Marked.leaf {w : World} {k M c b κ : Nat} {qs : Nat → List Plc} (h : Marked w k (upTo qs M)) (hc : c < M) (hq : qs c = [(⟨b, c, none⟩, κ)]) : w.cell? ⟨b, c, none⟩ = some (mkV κ (k + (upTo qs c).length)) := by
  have h1 := h.at hc
  rw [hq] at h1
  simpa using h1 0 (by simp)

/-- What one cell of an element is: a place, or a slice with places behind it. -/
abbrev CellP := World → Addr → Value → List Plc → Prop
def LeafP (κ : Nat) : CellP := fun _ a u ps => leafK κ u ∧ ps = [(a, κ)]
def NestP (P : World → Value → List Plc → Prop) : CellP := fun w _ u ps => P w u ps
/-- The places of a list of elements. -/
def RowP (T : TypeId) (es : List CellP) (w : World) (v : Value) (ps : List Plc) : Prop := (v = .slice none 0 0 ∧ ps = []) ∨ ∃ b n cap m f qs, v = .slice (some ⟨b, 0, none⟩) n cap ∧ n ≤ 1048576 ∧ w.rowIs b T m f ∧ n * es.length ≤ m ∧ ps = upTo qs (n * es.length) ∧ ∀ i, i < n → ∀ j (h : j < es.length), es[j] w ⟨b, i * es.length + j, none⟩ (f (i * es.length + j)) (qs (i * es.length + j))
/-- It lies in blocks that are there. -/
def Lay (P : World → Value → List Plc → Prop) : Prop := (∀ w v ps, P w v ps → ∀ p ∈ ps, p.1.block < w.heap.size) ∧ (∀ S w w' u ps, Marks S w w' → P w u ps → P w' u ps)
theorem RowP.lay {T : TypeId} {es : List CellP} (he : ∀ j (h : j < es.length), (∃ κ, es[j] = LeafP κ) ∨ ∃ P, es[j] = NestP P ∧ Lay P ∧ ∀ w v ps, P w v ps → ∃ a n c, v = .slice a n c) : Lay (RowP T es) := by
  refine ⟨fun w v ps h p hp => ?_, fun S w w' u ps hm h => ?_⟩
  · rcases h with ⟨_, rfl⟩ | ⟨b, n, cap, m, f, qs, rfl, hn, hr, hl, rfl, hf⟩
    · simp at hp
    · obtain ⟨c, hc, hp⟩ := List.mem_flatMap.1 hp
      rw [List.mem_range] at hc
      have hz : 0 < es.length := by
        rcases Nat.eq_zero_or_pos es.length with h0 | h0
        · rw [h0, Nat.mul_zero] at hc; omega
        · exact h0
      have hi : c / es.length < n := Nat.div_lt_of_lt_mul (by rwa [Nat.mul_comm])
      have hj : c % es.length < es.length := Nat.mod_lt _ hz
      have hd : c / es.length * es.length + c % es.length = c := by rw [Nat.mul_comm]; exact Nat.div_add_mod c es.length
      have h1 := hf _ hi _ hj
      rw [hd] at h1
      rcases he _ hj with ⟨κ, e⟩ | ⟨P, e, hP, _⟩
      · rw [e] at h1
        rw [h1.2] at hp
        simp at hp; subst hp
        exact hr.lt
      · rw [e] at h1
        exact hP.1 _ _ _ h1 p hp
  · rcases h with ⟨rfl, rfl⟩ | ⟨b, n, cap, m, f, qs, rfl, hn, hr, hl, rfl, hf⟩
    · exact Or.inl ⟨rfl, rfl⟩
    · obtain ⟨f', hr', hk⟩ : ∃ f', w'.rowIs b T m f' ∧ ∀ i, i < m → kind1 (f i) (f' i) := by
        by_cases hb : S b
        · exact hm.kinds b T m f hb hr
        · exact ⟨f, hr.of_block (hm.turns.block b hr.lt hb), fun _ _ => kind1.refl _⟩
      refine Or.inr ⟨b, n, cap, m, f', qs, rfl, hn, hr', hl, rfl, fun i hi j hj => ?_⟩
      have h1 := hf i hi j hj
      have hlt : i * es.length + j < m := by
        have : (i + 1) * es.length ≤ n * es.length := Nat.mul_le_mul_right _ hi
        rw [Nat.add_mul, Nat.one_mul] at this
        omega
      have h2 := hk _ hlt
      rcases he j hj with ⟨κ, e⟩ | ⟨P, e, hP, hs⟩
      · rw [e] at h1 ⊢
        exact ⟨leafK_stay h1.1 h2, h1.2⟩
      · rw [e] at h1 ⊢
        obtain ⟨a, n', c', e2⟩ := hs _ _ _ h1
        rw [e2] at h1 h2
        show P w' _ _
        rw [h2.slice]
        exact hP.2 _ _ _ _ _ hm h1
theorem RowP.lit {T : TypeId} {es : List CellP} {w : World} {v : Value} {ps : List Plc} (h : RowP T es w v ps) : ∃ a n c, v = .slice a n c := by
  rcases h with ⟨rfl, _⟩ | ⟨b, n, cap, m, f, qs, rfl, _⟩ <;> exact ⟨_, _, _, rfl⟩
end Go.Proofs.YtikccmgpmbnkfaaGreat

namespace Go.Proofs.YtikccmgpmbnkfaaGreat
open Go.ChangeShapes Go.WideShapes Go.ChangeAt Go.RowKit

/-- All cells of a row are places. -/
theorem RowP.leaves {T : TypeId} {κs : List Nat} {w : World} {v : Value} {ps : List Plc} (hz : 0 < κs.length) (h : RowP T (κs.map LeafP) w v ps) : (v = .slice none 0 0 ∧ ps = []) ∨ ∃ b n cap m f, v = .slice (some ⟨b, 0, none⟩) n cap ∧ n ≤ 1048576 ∧ w.rowIs b T m f ∧ n * κs.length ≤ m ∧ ps = upTo (fun c => [(⟨b, c, none⟩, κs.getD (c % κs.length) 0)]) (n * κs.length) ∧ ∀ c, c < n * κs.length → leafK (κs.getD (c % κs.length) 0) (f c) := by
  rcases h with h | ⟨b, n, cap, m, f, qs, rfl, hn, hr, hl, rfl, hf⟩
  · exact Or.inl h
  · rw [List.length_map] at hl ⊢
    have key : ∀ c, c < n * κs.length → leafK (κs.getD (c % κs.length) 0) (f c) ∧ qs c = [(⟨b, c, none⟩, κs.getD (c % κs.length) 0)] := fun c hc => by
      have hi : c / κs.length < n := Nat.div_lt_of_lt_mul (by rwa [Nat.mul_comm])
      have hj : c % κs.length < κs.length := Nat.mod_lt _ hz
      have hd : c / κs.length * κs.length + c % κs.length = c := by rw [Nat.mul_comm]; exact Nat.div_add_mod c κs.length
      have h1 := hf _ hi (c % κs.length) (by simpa using hj)
      simp only [List.getElem_map, List.length_map, hd] at h1
      rw [List.getD_eq_getElem?_getD, List.getElem?_eq_getElem hj]
      exact h1
    refine Or.inr ⟨b, n, cap, m, f, rfl, hn, hr, hl, ?_, fun c hc => (key c hc).1⟩
    have hfm : ∀ N, N ≤ n * κs.length → upTo qs N = upTo (fun c => [(⟨b, c, none⟩, κs.getD (c % κs.length) 0)]) N := fun N => by
      induction N with
      | zero => intro _; rfl
      | succ N ih => intro hN; rw [upTo_succ, upTo_succ, ih (by omega), (key N (by omega)).2]
    exact hfm _ (Nat.le_refl _)
theorem leaves_len (g : Nat → Plc) : ∀ M, (upTo (fun c => [g c]) M).length = M
  | 0 => rfl
  | M + 1 => by rw [upTo_len, leaves_len g M]; rfl
theorem leaves_at (g : Nat → Plc) : ∀ M c (h : c < (upTo (fun c => [g c]) M).length), (upTo (fun c => [g c]) M)[c] = g c
  | 0, c, h => by simp at h
  | M + 1, c, h => by
    have hl := leaves_len g M
    have h' := h
    rw [leaves_len] at h'
    simp only [upTo_succ]
    by_cases e : c < M
    · rw [List.getElem_append_left (by omega)]; exact leaves_at g M c (by omega)
    · obtain rfl : c = M := by omega
      rw [List.getElem_append_right (by omega)]
      simp
theorem Mk.of_row {w w' : World} {b M m k : Nat} {T : TypeId} {f g : Nat → Value} {κ : Nat → Nat} (ht : Turns (· = b) w w') (hr : w.rowIs b T m f) (hr' : w'.rowIs b T m (fun i => if i < M then g i else f i)) (hM : M ≤ m) (hg : ∀ c, c < M → g c = mkV (κ c) (k + c)) (hf : ∀ c, c < M → leafK (κ c) (f c)) : Mk w w' k (upTo (fun c => [(⟨b, c, none⟩, κ c)]) M) := by
  have hmem : ∀ c, c < M → ((⟨b, c, none⟩, κ c) : Plc) ∈ upTo (fun c => [(⟨b, c, none⟩, κ c)]) M := fun c hc => List.mem_flatMap.2 ⟨c, List.mem_range.2 hc, by simp⟩
  by_cases h0 : M = 0
  · subst h0
    have hww : w'.rowIs b T m f := hr'.congr fun i _ => by simp
    refine ⟨⟨⟨ht.os, ht.tape, ht.output, ht.size, fun c hc _ => ?_⟩, fun x T' m' f' hx => by obtain ⟨p, hp, _⟩ := hx; simp at hp⟩, fun a ha _ => ?_, fun j hj => by simp at hj⟩
    · by_cases e : c = b
      · subst e
        obtain ⟨c1, h1, h2, h3⟩ := hr
        obtain ⟨c2, g1, g2, g3⟩ := hww
        rw [h1, g1]
        have : c2 = c1 := by
          apply Array.ext (by omega)
          intro i hi1 hi2
          have e1 := h3 i (by omega)
          have e2 := g3 i (by omega)
          rw [Array.getElem?_eq_getElem hi2] at e1
          rw [Array.getElem?_eq_getElem hi1] at e2
          exact Option.some.inj (e2.trans e1.symm)
        rw [this]
      · exact ht.block c hc e
    · by_cases e : a.block = b
      · obtain ⟨bb, o, sp⟩ := a
        simp only at e
        subst e
        obtain ⟨c1, h1, h2, h3⟩ := hr
        obtain ⟨c2, g1, g2, g3⟩ := hww
        have : c2 = c1 := by
          apply Array.ext (by omega)
          intro i hi1 hi2
          have e1 := h3 i (by omega)
          have e2 := g3 i (by omega)
          rw [Array.getElem?_eq_getElem hi2] at e1
          rw [Array.getElem?_eq_getElem hi1] at e2
          exact Option.some.inj (e2.trans e1.symm)
        unfold World.cell?
        simp only [h1, g1, this]
      · have := ht.block a.block ha e
        unfold World.cell?
        rw [this]
  · have hS : ∃ p ∈ upTo (fun c => [(⟨b, c, none⟩, κ c)]) M, p.1.block = b := ⟨_, hmem 0 (by omega), rfl⟩
    refine ⟨Marks.one hS ht hr hr' fun i hi => ?_, fun a ha hn => ?_, fun j hj => ?_⟩
    · by_cases hiM : i < M
      · simp only [if_pos hiM, hg i hiM]
        exact mkV_kind (hf i hiM)
      · simp only [if_neg hiM]; exact kind1.refl _
    · by_cases e : a.block = b
      · obtain ⟨bb, o, sp⟩ := a
        simp only at e
        subst e
        cases sp with
        | some s =>
          obtain ⟨c1, h1, h2, h3⟩ := hr
          obtain ⟨c2, g1, g2, g3⟩ := hr'
          unfold World.cell?
          simp [h1, g1]
        | none =>
          have ho : ¬ o < M := fun h => hn (List.mem_map.2 ⟨_, hmem o h, rfl⟩)
          by_cases hom : o < m
          · rw [hr'.cell hom, hr.cell hom, if_neg ho]
          · obtain ⟨c1, h1, h2, h3⟩ := hr
            obtain ⟨c2, g1, g2, g3⟩ := hr'
            unfold World.cell?
            simp only [h1, g1]
            rw [Array.getElem?_eq_none (by omega), Array.getElem?_eq_none (by omega)]
      · have := ht.block a.block ha e
        unfold World.cell?
        rw [this]
    · have hl := leaves_len (fun c => ((⟨b, c, none⟩, κ c) : Plc)) M
      have hjM : j < M := by omega
      rw [leaves_at (fun c => ((⟨b, c, none⟩, κ c) : Plc)) M j hj]
      show w'.cell? ⟨b, j, none⟩ = _
      rw [hr'.cell (by omega), if_pos hjM, hg j hjM]
def ValsP := RowP 128 ([0, 0, 1].map LeafP)
def ColsP := RowP 131 ([1, 0, 2, 2, 0, 0, 1].map LeafP)
def StrsP := RowP 9 ([1].map LeafP)
def IntsP := RowP 3 ([0].map LeafP)
theorem leaves_lay (T : TypeId) (κs : List Nat) : Lay (RowP T (κs.map LeafP)) := RowP.lay fun j h => Or.inl ⟨κs[j]'(by simpa using h), by simp⟩
theorem leaves_lenP {T : TypeId} {κs : List Nat} (hz : 0 < κs.length) {w : World} {v : Value} {ps : List Plc} (h : RowP T (κs.map LeafP) w v ps) : ps.length ≤ 1048576 * κs.length := by
  rcases RowP.leaves hz h with ⟨rfl, rfl⟩ | ⟨b, n, cap, m, f, rfl, hn, hr, hl, rfl, hf⟩
  · simp
  · rw [leaves_len (fun c => ((⟨b, c, none⟩, κs.getD (c % κs.length) 0) : Plc))]; exact Nat.mul_le_mul_right _ hn
theorem ValsP_len {w : World} {v : Value} {ps : List Plc} (h : ValsP w v ps) : ps.length ≤ 3145728 := leaves_lenP (by simp) h
theorem ColsP_len {w : World} {v : Value} {ps : List Plc} (h : ColsP w v ps) : ps.length ≤ 7340032 := leaves_lenP (by simp) h
theorem StrsP_len {w : World} {v : Value} {ps : List Plc} (h : StrsP w v ps) : ps.length ≤ 1048576 := leaves_lenP (by simp) h
theorem markV_mkV (k c : Nat) : markV k c = mkV ([0, 0, 1].getD (c % 3) 0) (k + c) := by
  unfold markV
  rcases (by omega : c % 3 = 0 ∨ c % 3 = 1 ∨ c % 3 = 2) with h | h | h <;> rw [h] <;> rfl
theorem markC_mkV (k c : Nat) : markC k c = mkV ([1, 0, 2, 2, 0, 0, 1].getD (c % 7) 0) (k + c) := by
  unfold markC
  rcases (by omega : c % 7 = 0 ∨ c % 7 = 1 ∨ c % 7 = 2 ∨ c % 7 = 3 ∨ c % 7 = 4 ∨ c % 7 = 5 ∨ c % 7 = 6) with h | h | h | h | h | h | h <;> rw [h] <;> rfl
theorem markValS_pl {w : World} {v : Value} {ps : List Plc} (h : ValsP w v ps) (k : Nat) (hk : k ≤ 8000000000000000000) :
    Calls Tryz.prog 49 #[v, .int .i64 k] w fun e w' => e = .returned (.int .i64 ((k + ps.length : Nat) : Int)) ∧ Mk w w' k ps := by
  rcases RowP.leaves (by simp) h with ⟨rfl, rfl⟩ | ⟨b, n, cap, m, f, rfl, hn, hr, hl, rfl, hf⟩
  · exact (markValS_nil k w).mono fun e w' ⟨h1, h2⟩ => ⟨by simpa using h1, (Mk.refl w k).below h2⟩
  · refine (markValS_any b n cap m _ f k w hr hl hn hk).mono fun e w' ⟨h1, h2, h3⟩ => ⟨?_, Mk.of_row h2 hr h3 hl (fun c _ => markV_mkV k c) hf⟩
    rw [leaves_len (fun c => ((⟨b, c, none⟩, _) : Plc))]; exact h1
theorem markColS_pl {w : World} {v : Value} {ps : List Plc} (h : ColsP w v ps) (k : Nat) (hk : k ≤ 8000000000000000000) :
    Calls Tryz.prog 75 #[v, .int .i64 k] w fun e w' => e = .returned (.int .i64 ((k + ps.length : Nat) : Int)) ∧ Mk w w' k ps := by
  rcases RowP.leaves (by simp) h with ⟨rfl, rfl⟩ | ⟨b, n, cap, m, f, rfl, hn, hr, hl, rfl, hf⟩
  · exact (markColS_nil k w).mono fun e w' ⟨h1, h2⟩ => ⟨by simpa using h1, (Mk.refl w k).below h2⟩
  · refine (markColS_any b n cap m _ f k w hr hl hn hk).mono fun e w' ⟨h1, h2, h3⟩ => ⟨?_, Mk.of_row h2 hr h3 hl (fun c _ => markC_mkV k c) hf⟩
    rw [leaves_len (fun c => ((⟨b, c, none⟩, _) : Plc))]; exact h1
theorem markStringS_pl {w : World} {v : Value} {ps : List Plc} (h : StrsP w v ps) (k : Nat) (hk : k ≤ 8000000000000000000) :
    Calls Tryz.prog 76 #[v, .int .i64 k] w fun e w' => e = .returned (.int .i64 ((k + ps.length : Nat) : Int)) ∧ Mk w w' k ps := by
  rcases RowP.leaves (by simp) h with ⟨rfl, rfl⟩ | ⟨b, n, cap, m, f, rfl, hn, hr, hl, rfl, hf⟩
  · exact (markStringS_nil k w).mono fun e w' ⟨h1, h2⟩ => ⟨by simpa using h1, (Mk.refl w k).below h2⟩
  · refine (markStringS_wide b n cap m _ f k w hr (by simpa using hl) (by omega) hk).mono fun e w' ⟨h1, h2, h3⟩ => ⟨?_, Mk.of_row h2 hr (M := n * [1].length) (g := fun i => .string (markB (k + i))) (by simpa using h3) hl (fun c _ => by simp [mkV, Nat.mod_one]) hf⟩
    rw [leaves_len (fun c => ((⟨b, c, none⟩, _) : Plc))]; simpa using h1
theorem heldValS_pl {w : World} {v : Value} {ps : List Plc} (h : ValsP w v ps) (k : Nat) (hk : k ≤ 8000000000000000000) (hm : Marked w k ps) :
    Calls Tryz.prog 52 #[v, .int .i64 k] w fun e w' => e = .returned (.int .i64 ((k + ps.length : Nat) : Int)) ∧ Below w.heap.size w w' := by
  rcases RowP.leaves (by simp) h with ⟨rfl, rfl⟩ | ⟨b, n, cap, m, f, rfl, hn, hr, hl, rfl, hf⟩
  · exact (heldValS_nil k w).mono fun e w' ⟨h1, h2⟩ => ⟨by simpa using h1, h2⟩
  · have hlen := leaves_len (fun c => ((⟨b, c, none⟩, [0, 0, 1].getD (c % [0, 0, 1].length) 0) : Plc)) (n * [0, 0, 1].length)
    refine (heldValS_any b n cap m _ f k w hr hl hn hk fun c hc => ?_).mono fun e w' ⟨h1, h2⟩ => ⟨by rw [hlen]; exact h1, h2⟩
    have h1 := hm c (by rw [hlen]; exact hc)
    rw [leaves_at (fun c => ((⟨b, c, none⟩, [0, 0, 1].getD (c % [0, 0, 1].length) 0) : Plc))] at h1
    rw [markV_mkV]
    exact Option.some.inj ((hr.cell (by simp at hl; omega)).symm.trans h1)
theorem heldColS_pl {w : World} {v : Value} {ps : List Plc} (h : ColsP w v ps) (k : Nat) (hk : k ≤ 8000000000000000000) (hm : Marked w k ps) :
    Calls Tryz.prog 92 #[v, .int .i64 k] w fun e w' => e = .returned (.int .i64 ((k + ps.length : Nat) : Int)) ∧ Below w.heap.size w w' := by
  rcases RowP.leaves (by simp) h with ⟨rfl, rfl⟩ | ⟨b, n, cap, m, f, rfl, hn, hr, hl, rfl, hf⟩
  · exact (heldColS_nil k w).mono fun e w' ⟨h1, h2⟩ => ⟨by simpa using h1, h2⟩
  · have hlen := leaves_len (fun c => ((⟨b, c, none⟩, [1, 0, 2, 2, 0, 0, 1].getD (c % [1, 0, 2, 2, 0, 0, 1].length) 0) : Plc)) (n * [1, 0, 2, 2, 0, 0, 1].length)
    refine (heldColS_any b n cap m _ f k w hr hl hn hk fun c hc => ?_).mono fun e w' ⟨h1, h2⟩ => ⟨by rw [hlen]; exact h1, h2⟩
    have h1 := hm c (by rw [hlen]; exact hc)
    rw [leaves_at (fun c => ((⟨b, c, none⟩, [1, 0, 2, 2, 0, 0, 1].getD (c % [1, 0, 2, 2, 0, 0, 1].length) 0) : Plc))] at h1
    rw [markC_mkV]
    exact Option.some.inj ((hr.cell (by simp at hl; omega)).symm.trans h1)
theorem heldStringS_pl {w : World} {v : Value} {ps : List Plc} (h : StrsP w v ps) (k : Nat) (hk : k ≤ 8000000000000000000) (hm : Marked w k ps) :
    Calls Tryz.prog 93 #[v, .int .i64 k] w fun e w' => e = .returned (.int .i64 ((k + ps.length : Nat) : Int)) ∧ Below w.heap.size w w' := by
  rcases RowP.leaves (by simp) h with ⟨rfl, rfl⟩ | ⟨b, n, cap, m, f, rfl, hn, hr, hl, rfl, hf⟩
  · exact (heldStringS_nil k w).mono fun e w' ⟨h1, h2⟩ => ⟨by simpa using h1, h2⟩
  · have hlen := leaves_len (fun c => ((⟨b, c, none⟩, [1].getD (c % [1].length) 0) : Plc)) (n * [1].length)
    refine (heldStringS_wide b n cap m _ f k w hr (by simpa using hl) (by omega) hk fun c hc => ?_).mono fun e w' ⟨h1, h2⟩ => ⟨by rw [hlen]; simpa using h1, h2⟩
    have h1 := hm c (by rw [hlen]; simpa using hc)
    rw [leaves_at (fun c => ((⟨b, c, none⟩, [1].getD (c % [1].length) 0) : Plc))] at h1
    have h2 := (hr.cell (i := c) (by simp at hl; omega)).symm.trans h1
    simpa [mkV, Nat.mod_one] using Option.some.inj h2
end Go.Proofs.YtikccmgpmbnkfaaGreat
