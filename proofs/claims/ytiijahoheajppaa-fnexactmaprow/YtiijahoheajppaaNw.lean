/- The laws' marks on shapes. Shapes that lie in new memory alone. -/
import Derived.Test.YtiijahoheajppaaTr
import Derived.Test.YtiijahoheajppaaCq
namespace Go.Proofs.Ytiijahoheajppaa
open Go.ChangeShapes Go.WideShapes Go.ChangeAt Go.RowKit

theorem markV_kind {f : Nat → Value} {w : World} {n k : Nat} (hf : ∀ i, i < n → ∀ j (h : j < [IntS, IntS, StrS].length), [IntS, IntS, StrS][j] w (f (i * [IntS, IntS, StrS].length + j))) (i : Nat) (hi : i < n * 3) : kind1 (f i) (if i < n * 3 then markV k i else f i) := by
  rw [if_pos hi]
  have hq : i / 3 < n := Nat.div_lt_of_lt_mul (by omega)
  have hd : i / 3 * 3 + i % 3 = i := by omega
  have hm : i % 3 < 3 := Nat.mod_lt _ (by omega)
  have h := markV_all k (i / 3) _ rfl
  have h0 := hf (i / 3) hq 0 (by decide)
  have h1 := hf (i / 3) hq 1 (by decide)
  have h2 := hf (i / 3) hq 2 (by decide)
  simp only [List.length_cons, List.length_nil, Nat.zero_add, Nat.reduceAdd, List.getElem_cons_zero, List.getElem_cons_succ, Nat.add_zero] at h0 h1 h2
  rcases (by omega : i % 3 = 0 ∨ i % 3 = 1 ∨ i % 3 = 2) with e | e | e
  · have ei : i = i / 3 * 3 := by omega
    obtain ⟨x, hx⟩ := h0
    rw [ei, hx, h.1]
    exact Or.inr (Or.inl ⟨_, _, rfl, rfl⟩)
  · have ei : i = i / 3 * 3 + 1 := by omega
    obtain ⟨x, hx⟩ := h1
    rw [ei, hx, h.2.1]
    exact Or.inr (Or.inl ⟨_, _, rfl, rfl⟩)
  · have ei : i = i / 3 * 3 + 2 := by omega
    obtain ⟨x, hx⟩ := h2
    rw [ei, hx, h.2.2]
    exact Or.inr (Or.inr (Or.inl ⟨_, _, rfl, rfl⟩))
theorem markValS_shape (S : Nat → Prop) (v : Value) (k : Nat) (w : World) (hv : ValsS S w v) (hk : k ≤ 8000000000000000000) :
    Calls Try.prog 22 #[v, .int .i64 k] w fun e w' => ∃ k' : Nat, e = .returned (.int .i64 k') ∧ k' ≤ k + 3145728 ∧ Marks S w w' := by
  obtain ⟨b, n, cap, f, rfl, hb, hn, hr, hf⟩ := hv
  refine (markValS_any b n cap (n * 3) _ f k w hr (Nat.le_refl _) hn hk).mono ?_
  rintro e w' ⟨rfl, ht, hr'⟩
  exact ⟨k + n * 3, rfl, by omega, Marks.one hb ht hr hr' (markV_kind hf)⟩
theorem markStringS_shape (S : Nat → Prop) (v : Value) (k : Nat) (w : World) (hv : StrsS S w v) (hk : k ≤ 8000000000000000000) :
    Calls Try.prog 20 #[v, .int .i64 k] w fun e w' => ∃ k' : Nat, e = .returned (.int .i64 k') ∧ k' ≤ k + 1048576 ∧ Marks S w w' := by
  obtain ⟨b, n, cap, f, rfl, hb, hn, hr, hf⟩ := hv
  have hr1 : w.rowIs b 9 n f := by simpa using hr
  refine (markStringS_any b n cap n _ f k w hr1 (Nat.le_refl _) hn hk).mono ?_
  rintro e w' ⟨rfl, ht, hr'⟩
  refine ⟨k + n, rfl, by omega, Marks.one hb ht hr1 hr' fun i hi => ?_⟩
  have h := hf i hi 0 (by decide)
  simp only [List.length_cons, List.length_nil, Nat.zero_add, Nat.mul_one, Nat.add_zero, List.getElem_cons_zero] at h
  obtain ⟨x, hx⟩ := h
  rw [if_pos hi, hx]
  exact Or.inr (Or.inr (Or.inl ⟨_, _, rfl, rfl⟩))
set_option maxHeartbeats 1000000 in
theorem markC_kind {f : Nat → Value} {w : World} {n k : Nat} (hf : ∀ i, i < n → ∀ j (h : j < [StrS, IntS, BoolS, BoolS, IntS, IntS, StrS].length), [StrS, IntS, BoolS, BoolS, IntS, IntS, StrS][j] w (f (i * [StrS, IntS, BoolS, BoolS, IntS, IntS, StrS].length + j))) (i : Nat) (hi : i < n * 7) : kind1 (f i) (if i < n * 7 then markC k i else f i) := by
  rw [if_pos hi]
  have hq : i / 7 < n := Nat.div_lt_of_lt_mul (by omega)
  have h := markC_all k (i / 7) _ rfl
  have h0 := hf (i / 7) hq 0 (by decide)
  have h1 := hf (i / 7) hq 1 (by decide)
  have h2 := hf (i / 7) hq 2 (by decide)
  have h3 := hf (i / 7) hq 3 (by decide)
  have h4 := hf (i / 7) hq 4 (by decide)
  have h5 := hf (i / 7) hq 5 (by decide)
  have h6 := hf (i / 7) hq 6 (by decide)
  simp only [List.length_cons, List.length_nil, Nat.zero_add, Nat.reduceAdd, List.getElem_cons_zero, List.getElem_cons_succ, Nat.add_zero] at h0 h1 h2 h3 h4 h5 h6
  rcases (by omega : i % 7 = 0 ∨ i % 7 = 1 ∨ i % 7 = 2 ∨ i % 7 = 3 ∨ i % 7 = 4 ∨ i % 7 = 5 ∨ i % 7 = 6) with e | e | e | e | e | e | e
  · have ei : i = i / 7 * 7 := by omega
    obtain ⟨x, hx⟩ := h0
    rw [ei, hx, h.1]
    exact Or.inr (Or.inr (Or.inl ⟨_, _, rfl, rfl⟩))
  · have ei : i = i / 7 * 7 + 1 := by omega
    obtain ⟨x, hx⟩ := h1
    rw [ei, hx, h.2.1]
    exact Or.inr (Or.inl ⟨_, _, rfl, rfl⟩)
  · have ei : i = i / 7 * 7 + 2 := by omega
    obtain ⟨x, hx⟩ := h2
    rw [ei, hx, h.2.2.1]
    exact Or.inr (Or.inr (Or.inr ⟨_, _, rfl, rfl⟩))
  · have ei : i = i / 7 * 7 + 3 := by omega
    obtain ⟨x, hx⟩ := h3
    rw [ei, hx, h.2.2.2.1]
    exact Or.inr (Or.inr (Or.inr ⟨_, _, rfl, rfl⟩))
  · have ei : i = i / 7 * 7 + 4 := by omega
    obtain ⟨x, hx⟩ := h4
    rw [ei, hx, h.2.2.2.2.1]
    exact Or.inr (Or.inl ⟨_, _, rfl, rfl⟩)
  · have ei : i = i / 7 * 7 + 5 := by omega
    obtain ⟨x, hx⟩ := h5
    rw [ei, hx, h.2.2.2.2.2.1]
    exact Or.inr (Or.inl ⟨_, _, rfl, rfl⟩)
  · have ei : i = i / 7 * 7 + 6 := by omega
    obtain ⟨x, hx⟩ := h6
    rw [ei, hx, h.2.2.2.2.2.2]
    exact Or.inr (Or.inr (Or.inl ⟨_, _, rfl, rfl⟩))
theorem markColS_shape (S : Nat → Prop) (v : Value) (k : Nat) (w : World) (hv : ColsS S w v) (hk : k ≤ 8000000000000000000) :
    Calls Try.prog 50 #[v, .int .i64 k] w fun e w' => ∃ k' : Nat, e = .returned (.int .i64 k') ∧ k' ≤ k + 7340032 ∧ Marks S w w' := by
  obtain ⟨b, n, cap, f, rfl, hb, hn, hr, hf⟩ := hv
  refine (markColS_any b n cap (n * 7) _ f k w hr (Nat.le_refl _) hn hk).mono ?_
  rintro e w' ⟨rfl, ht, hr'⟩
  exact ⟨k + n * 7, rfl, by omega, Marks.one hb ht hr hr' (markC_kind hf)⟩

/-- The i-th element of a list of lists. -/
theorem RowS.inner {S : Nat → Prop} {T : TypeId} {P : Shape} {w : World} {b n cap : Nat} (h : RowS S T [P] w (.slice (some ⟨b, 0, none⟩) n cap)) (i : Nat) (hi : i < n) : ∃ u, w.cell? ⟨b, i, none⟩ = some u ∧ P w u := by
  obtain ⟨b', n', cap', f, e, hb, hn, hr, hf⟩ := h
  cases e
  have h0 := hf i hi 0 (by simp)
  simp only [List.length_cons, List.length_nil, Nat.zero_add, Nat.mul_one, Nat.add_zero, List.getElem_cons_zero] at h0 hr
  exact ⟨f i, hr.cell hi, h0⟩
theorem RowS.lit {S : Nat → Prop} {T : TypeId} {es : List Shape} {w : World} {v : Value} (h : RowS S T es w v) : ∃ b n cap, v = .slice (some ⟨b, 0, none⟩) n cap ∧ n ≤ 1048576 ∧ RowS S T es w (.slice (some ⟨b, 0, none⟩) n cap) := by
  obtain ⟨b, n, cap, f, rfl, hb, hn, h⟩ := h
  exact ⟨b, n, cap, rfl, hn, b, n, cap, f, rfl, hb, hn, h⟩

/-- A table among others. -/
theorem TabsS.tab {S : Nat → Prop} {w : World} {b n cap : Nat} (h : TabsS S w (.slice (some ⟨b, 0, none⟩) n cap)) (i : Nat) (hi : i < n) : ∃ f s b1 n1 c1 b2 n2 c2, S b ∧ w.rowIs b 32 (n * 3) f ∧ f (i * 3) = .string s ∧ w.cell? ⟨b, i * 3, none⟩ = some (.string s) ∧ w.cell? ⟨b, i * 3 + 1, none⟩ = some (.slice (some ⟨b1, 0, none⟩) n1 c1) ∧ w.cell? ⟨b, i * 3 + 2, none⟩ = some (.slice (some ⟨b2, 0, none⟩) n2 c2) ∧ w.frozen? ⟨b, i * 3, none⟩ = false ∧ ColsS S w (.slice (some ⟨b1, 0, none⟩) n1 c1) ∧ StrsS S w (.slice (some ⟨b2, 0, none⟩) n2 c2) := by
  obtain ⟨b', n', cap', f, e, hb, hn, hr, hf⟩ := h
  cases e
  have h0 := hf i hi 0 (by simp)
  have h1 := hf i hi 1 (by simp)
  have h2 := hf i hi 2 (by simp)
  simp only [List.length_cons, List.length_nil, Nat.zero_add, Nat.reduceAdd, List.getElem_cons_zero, List.getElem_cons_succ, Nat.add_zero] at h0 h1 h2 hr
  obtain ⟨s, hs⟩ := h0
  obtain ⟨b1, n1, c1, e1, _, h1⟩ := h1.lit
  obtain ⟨b2, n2, c2, e2, _, h2⟩ := h2.lit
  exact ⟨f, s, b1, n1, c1, b2, n2, c2, hb, hr, hs, by rw [← hs]; exact hr.cell (by omega), by rw [← e1]; exact hr.cell (by omega), by rw [← e2]; exact hr.cell (by omega), hr.frozen _, h1, h2⟩

end Go.Proofs.Ytiijahoheajppaa

namespace Go.Proofs.Ytiijahoheajppaa
open Go.ChangeShapes Go.WideShapes Go.ChangeAt Go.RowKit

/-- It hangs on blocks of S alone. -/
def Holds (S : Nat → Prop) (P : Shape) : Prop := ∀ w w' u, (∀ c, S c → c < w.heap.size → w'.heap[c]? = w.heap[c]?) → P w u → P w' u
theorem IntS.holds (S : Nat → Prop) : Holds S IntS := fun _ _ _ _ h => h
theorem StrS.holds (S : Nat → Prop) : Holds S StrS := fun _ _ _ _ h => h
theorem BoolS.holds (S : Nat → Prop) : Holds S BoolS := fun _ _ _ _ h => h
theorem RowS.holds {S : Nat → Prop} {T : TypeId} {es : List Shape} (he : ∀ j (h : j < es.length), Holds S es[j]) : Holds S (RowS S T es) := fun w w' _ hb ⟨b, n, cap, f, e, hS, hn, hr, hf⟩ =>
  ⟨b, n, cap, f, e, hS, hn, hr.of_block (hb b hS hr.lt), fun i hi j hj => he j hj w w' _ hb (hf i hi j hj)⟩
/-- A shape for each set of blocks. -/
structure Good (P : (Nat → Prop) → Shape) : Prop where
  holds : ∀ S, Holds S (P S)
  mono : ∀ S S' w u, (∀ c, S c → S' c) → P S w u → P S' w u
theorem ValsS.good : Good ValsS := ⟨fun S => RowS.holds fun j h => by
    match j, h with
    | 0, _ => exact IntS.holds S
    | 1, _ => exact IntS.holds S
    | 2, _ => exact StrS.holds S, fun _ _ _ _ hs h => RowS.mono hs rfl (fun _ _ _ _ _ h => h) h⟩
theorem ColsS.good : Good ColsS := ⟨fun S => RowS.holds fun j h => by
    match j, h with
    | 0, _ => exact StrS.holds S
    | 1, _ => exact IntS.holds S
    | 2, _ => exact BoolS.holds S
    | 3, _ => exact BoolS.holds S
    | 4, _ => exact IntS.holds S
    | 5, _ => exact IntS.holds S
    | 6, _ => exact StrS.holds S, fun _ _ _ _ hs h => RowS.mono hs rfl (fun _ _ _ _ _ h => h) h⟩
theorem StrsS.good : Good StrsS := ⟨fun S => RowS.holds fun j h => by
    match j, h with
    | 0, _ => exact StrS.holds S, fun _ _ _ _ hs h => RowS.mono hs rfl (fun _ _ _ _ _ h => h) h⟩
theorem one_good {P : (Nat → Prop) → Shape} (hP : Good P) (T : TypeId) : Good (fun S => RowS S T [P S]) := ⟨fun S => RowS.holds fun j h => by
    match j, h with
    | 0, _ => exact hP.holds S, fun S S' _ _ hs h => RowS.mono (es := [P S]) (es' := [P S']) hs rfl (fun j hj hj' w u hu => by
      match j, hj with
      | 0, _ => exact hP.mono S S' w u hs hu) h⟩
theorem RowsS.good : Good RowsS := one_good ValsS.good _
theorem TabsS.good : Good TabsS := ⟨fun S => RowS.holds fun j h => by
    match j, h with
    | 0, _ => exact StrS.holds S
    | 1, _ => exact ColsS.good.holds S
    | 2, _ => exact StrsS.good.holds S, fun S S' _ _ hs h => RowS.mono (es := [StrS, ColsS S, StrsS S]) (es' := [StrS, ColsS S', StrsS S']) hs rfl (fun j hj hj' w u hu => by
      match j, hj with
      | 0, _ => exact hu
      | 1, _ => exact ColsS.good.mono S S' w u hs hu
      | 2, _ => exact StrsS.good.mono S S' w u hs hu) h⟩
/-- It lies in blocks from B on, that are there. -/
def New (P : (Nat → Prop) → Shape) (B : Nat) (w : World) (v : Value) : Prop := P (fun c => B ≤ c ∧ c < w.heap.size) w v
theorem New.at {P : (Nat → Prop) → Shape} (hP : Good P) {B : Nat} {w w' : World} {v : Value} (h : New P B w v) (k : Apart B w w') : New P B w' v :=
  hP.mono _ _ _ _ (fun _ hc => ⟨hc.1, Nat.lt_of_lt_of_le hc.2 k.1⟩) (hP.holds _ w w' v (fun c hc hl => k.2 c hc.1 hl) h)
theorem New.on {P : (Nat → Prop) → Shape} (hP : Good P) {B : Nat} {w w' : World} {v : Value} (h : New P B w v) (k : Below w.heap.size w w') : New P B w' v := h.at hP (Apart.of_below k)
theorem New.set {P : (Nat → Prop) → Shape} (hP : Good P) {B : Nat} {w : World} {v : Value} (h : New P B w v) {p : Addr} (hp : p.block < B) (u : Value) : New P B (w.setCell p u) v := h.at hP ((Apart.refl _ _).set hp u)
theorem New.mono {P : (Nat → Prop) → Shape} (hP : Good P) {B B' : Nat} {w : World} {v : Value} (h : New P B w v) (hB : B' ≤ B) : New P B' w v := hP.mono _ _ _ _ (fun _ hc => ⟨Nat.le_trans hB hc.1, hc.2⟩) h
theorem Fill.valsN {w : World} {B : Nat} {vs : List Vc} (h : Fill w B 58 3 vs.length (vs.map Vc.cells)) (hl : vs.length ≤ 1048576) : New ValsS B w (.slice (some ⟨B, 0, none⟩) vs.length vs.length) := by
  have hlt := h.lt
  obtain ⟨h0, h1, f, hr, hf⟩ := h
  refine ⟨B, vs.length, vs.length, f, rfl, ⟨Nat.le_refl _, hlt⟩, hl, hr, fun i hi j hj => ?_⟩
  match j, hj with
  | 0, _ => have e := hf i (by simpa using hi) 0 (by omega); simp at e; exact ⟨_, e⟩
  | 1, _ => have e := hf i (by simpa using hi) 1 (by omega); simp at e; exact ⟨_, e⟩
  | 2, _ => have e := hf i (by simpa using hi) 2 (by omega); simp at e; exact ⟨_, e⟩
theorem Fill.colsN {w : World} {B : Nat} {vs : List Cl} (h : Fill w B 60 7 vs.length (vs.map Cl.cells)) (hl : vs.length ≤ 1048576) : New ColsS B w (.slice (some ⟨B, 0, none⟩) vs.length vs.length) := by
  have hlt := h.lt
  obtain ⟨h0, h1, f, hr, hf⟩ := h
  refine ⟨B, vs.length, vs.length, f, rfl, ⟨Nat.le_refl _, hlt⟩, hl, hr, fun i hi j hj => ?_⟩
  match j, hj with
  | 0, _ => have e := hf i (by simpa using hi) 0 (by omega); simp at e; exact ⟨_, e⟩
  | 1, _ => have e := hf i (by simpa using hi) 1 (by omega); simp at e; exact ⟨_, e⟩
  | 2, _ => have e := hf i (by simpa using hi) 2 (by omega); simp at e; exact ⟨_, e⟩
  | 3, _ => have e := hf i (by simpa using hi) 3 (by omega); simp at e; exact ⟨_, e⟩
  | 4, _ => have e := hf i (by simpa using hi) 4 (by omega); simp at e; exact ⟨_, e⟩
  | 5, _ => have e := hf i (by simpa using hi) 5 (by omega); simp at e; exact ⟨_, e⟩
  | 6, _ => have e := hf i (by simpa using hi) 6 (by omega); simp at e; exact ⟨_, e⟩
theorem Fill.strsN {w : World} {B : Nat} {vs : List ByteArray} (h : Fill w B 9 1 vs.length (vs.map strX)) (hl : vs.length ≤ 1048576) : New StrsS B w (.slice (some ⟨B, 0, none⟩) vs.length vs.length) := by
  have hlt := h.lt
  obtain ⟨h0, h1, f, hr, hf⟩ := h
  refine ⟨B, vs.length, vs.length, f, rfl, ⟨Nat.le_refl _, hlt⟩, hl, hr, fun i hi j hj => ?_⟩
  match j, hj with
  | 0, _ => have e := hf i (by simpa using hi) 0 (by omega); simp at e; exact ⟨_, by simpa using e⟩
/-- Elements of one cell laid so far, each with memory of its own. -/
def Nfill (P : (Nat → Prop) → Shape) (w : World) (B : Nat) (T : TypeId) (n k : Nat) : Prop := ∃ f, w.rowIs B T n f ∧ ∀ i, i < k → New P (B + 1) w (f i)
theorem Nfill.on {P : (Nat → Prop) → Shape} (hP : Good P) {w w' : World} {B : Nat} {T : TypeId} {n k : Nat} (h : Nfill P w B T n k) (b : Below w.heap.size w w') : Nfill P w' B T n k := by
  obtain ⟨f, hr, hf⟩ := h
  exact ⟨f, hr.of_block (b.block B hr.lt), fun i hi => (hf i hi).on hP b⟩
theorem Nfill.put {P : (Nat → Prop) → Shape} (hP : Good P) {w : World} {B : Nat} {T : TypeId} {n k : Nat} (h : Nfill P w B T n k) {y : Value} (hy : New P (B + 1) w y) : Nfill P (w.setCell ⟨B, k, none⟩ y) B T n (k + 1) := by
  obtain ⟨f, hr, hf⟩ := h
  refine ⟨_, hr.set k y, fun i hi => ?_⟩
  by_cases e : i = k
  · subst e; simp only [if_true]; exact hy.set hP (by simp) _
  · simp only [if_neg e]; exact (hf i (by omega)).set hP (by simp) _
theorem Nfill.done {P : (Nat → Prop) → Shape} (hP : Good P) {w : World} {B : Nat} {T : TypeId} {n : Nat} (h : Nfill P w B T n n) (hn : n ≤ 1048576) : New (fun S => RowS S T [P S]) B w (.slice (some ⟨B, 0, none⟩) n n) := by
  obtain ⟨f, hr, hf⟩ := h
  refine ⟨B, n, n, f, rfl, ⟨Nat.le_refl _, hr.lt⟩, hn, by simpa using hr, fun i hi j hj => ?_⟩
  match j, hj with
  | 0, _ =>
    have h0 : New P B w (f i) := (hf i hi).mono hP (by omega)
    simpa using (show P (fun c => B ≤ c ∧ c < w.heap.size) w (f i) from h0)
end Go.Proofs.Ytiijahoheajppaa
