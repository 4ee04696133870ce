/- Shapes that lie in new memory alone. -/
import Derived.Test.YtiijahoheajppabMs
import Derived.Test.YtiijahoheajppabFm
namespace Go.Proofs.Ytiijahoheajppab
open Go.ChangeShapes Go.WideShapes Go.ChangeAt Go.RowKit

/-- It hangs on blocks of S alone. -/
def Holds (S : Nat → Prop) (P : Shape) : Prop := ∀ w w' u, (∀ c, S c → c < w.heap.size → w'.heap[c]? = w.heap[c]?) → P w u → P w' u
theorem IntS.holds (S : Nat → Prop) : Holds S IntS := fun _ _ _ _ h => h
theorem StrS.holds (S : Nat → Prop) : Holds S StrS := fun _ _ _ _ h => h
theorem BoolS.holds (S : Nat → Prop) : Holds S BoolS := fun _ _ _ _ h => h
theorem RowS.holds {S : Nat → Prop} {T : TypeId} {es : List Shape} (he : ∀ j (h : j < es.length), Holds S es[j]) : Holds S (RowS S T es) := fun w w' _ hb ⟨b, n, cap, f, e, hS, hn, hr, hf⟩ =>
  ⟨b, n, cap, f, e, hS, hn, hr.of_block (hb b hS hr.lt), fun i hi j hj => he j hj w w' _ hb (hf i hi j hj)⟩
/-- A shape for each set of blocks. -/
structure Good (P : (Nat → Prop) → Shape) : Prop where
  holds : ∀ S, Holds S (P S)
  mono : ∀ S S' w u, (∀ c, S c → S' c) → P S w u → P S' w u
theorem ValsS.good : Good ValsS := ⟨fun S => RowS.holds fun j h => by
    match j, h with
    | 0, _ => exact IntS.holds S
    | 1, _ => exact IntS.holds S
    | 2, _ => exact StrS.holds S, fun _ _ _ _ hs h => RowS.mono hs rfl (fun _ _ _ _ _ h => h) h⟩
theorem ColsS.good : Good ColsS := ⟨fun S => RowS.holds fun j h => by
    match j, h with
    | 0, _ => exact StrS.holds S
    | 1, _ => exact IntS.holds S
    | 2, _ => exact BoolS.holds S
    | 3, _ => exact BoolS.holds S
    | 4, _ => exact IntS.holds S
    | 5, _ => exact IntS.holds S
    | 6, _ => exact StrS.holds S, fun _ _ _ _ hs h => RowS.mono hs rfl (fun _ _ _ _ _ h => h) h⟩
theorem StrsS.good : Good StrsS := ⟨fun S => RowS.holds fun j h => by
    match j, h with
    | 0, _ => exact StrS.holds S, fun _ _ _ _ hs h => RowS.mono hs rfl (fun _ _ _ _ _ h => h) h⟩
theorem one_good {P : (Nat → Prop) → Shape} (hP : Good P) (T : TypeId) : Good (fun S => RowS S T [P S]) := ⟨fun S => RowS.holds fun j h => by
    match j, h with
    | 0, _ => exact hP.holds S, fun S S' _ _ hs h => RowS.mono (es := [P S]) (es' := [P S']) hs rfl (fun j hj hj' w u hu => by
      match j, hj with
      | 0, _ => exact hP.mono S S' w u hs hu) h⟩
theorem RowsS.good : Good RowsS := one_good ValsS.good _
theorem DataS.good : Good DataS := one_good RowsS.good _
theorem TabsS.good : Good TabsS := ⟨fun S => RowS.holds fun j h => by
    match j, h with
    | 0, _ => exact StrS.holds S
    | 1, _ => exact ColsS.good.holds S
    | 2, _ => exact StrsS.good.holds S, fun S S' _ _ hs h => RowS.mono (es := [StrS, ColsS S, StrsS S]) (es' := [StrS, ColsS S', StrsS S']) hs rfl (fun j hj hj' w u hu => by
      match j, hj with
      | 0, _ => exact hu
      | 1, _ => exact ColsS.good.mono S S' w u hs hu
      | 2, _ => exact StrsS.good.mono S S' w u hs hu) h⟩
/-- It lies in blocks from B on, that are there. -/
def New (P : (Nat → Prop) → Shape) (B : Nat) (w : World) (v : Value) : Prop := P (fun c => B ≤ c ∧ c < w.heap.size) w v
theorem New.at {P : (Nat → Prop) → Shape} (hP : Good P) {B : Nat} {w w' : World} {v : Value} (h : New P B w v) (k : Apart B w w') : New P B w' v :=
  hP.mono _ _ _ _ (fun _ hc => ⟨hc.1, Nat.lt_of_lt_of_le hc.2 k.1⟩) (hP.holds _ w w' v (fun c hc hl => k.2 c hc.1 hl) h)
theorem New.on {P : (Nat → Prop) → Shape} (hP : Good P) {B : Nat} {w w' : World} {v : Value} (h : New P B w v) (k : Below w.heap.size w w') : New P B w' v := h.at hP (Apart.of_below k)
theorem New.set {P : (Nat → Prop) → Shape} (hP : Good P) {B : Nat} {w : World} {v : Value} (h : New P B w v) {p : Addr} (hp : p.block < B) (u : Value) : New P B (w.setCell p u) v := h.at hP ((Apart.refl _ _).set hp u)
theorem New.mono {P : (Nat → Prop) → Shape} (hP : Good P) {B B' : Nat} {w : World} {v : Value} (h : New P B w v) (hB : B' ≤ B) : New P B' w v := hP.mono _ _ _ _ (fun _ hc => ⟨Nat.le_trans hB hc.1, hc.2⟩) h
theorem Fill.valsN {w : World} {B : Nat} {vs : List Vc} (h : Fill w B 56 3 vs.length (vs.map Vc.cells)) (hl : vs.length ≤ 1048576) : New ValsS B w (.slice (some ⟨B, 0, none⟩) vs.length vs.length) := by
  have hlt := h.lt
  obtain ⟨h0, h1, f, hr, hf⟩ := h
  refine ⟨B, vs.length, vs.length, f, rfl, ⟨Nat.le_refl _, hlt⟩, hl, hr, fun i hi j hj => ?_⟩
  match j, hj with
  | 0, _ => have e := hf i (by simpa using hi) 0 (by omega); simp at e; exact ⟨_, e⟩
  | 1, _ => have e := hf i (by simpa using hi) 1 (by omega); simp at e; exact ⟨_, e⟩
  | 2, _ => have e := hf i (by simpa using hi) 2 (by omega); simp at e; exact ⟨_, e⟩
theorem Fill.colsN {w : World} {B : Nat} {vs : List Cl} (h : Fill w B 66 7 vs.length (vs.map Cl.cells)) (hl : vs.length ≤ 1048576) : New ColsS B w (.slice (some ⟨B, 0, none⟩) vs.length vs.length) := by
  have hlt := h.lt
  obtain ⟨h0, h1, f, hr, hf⟩ := h
  refine ⟨B, vs.length, vs.length, f, rfl, ⟨Nat.le_refl _, hlt⟩, hl, hr, fun i hi j hj => ?_⟩
  match j, hj with
  | 0, _ => have e := hf i (by simpa using hi) 0 (by omega); simp at e; exact ⟨_, e⟩
  | 1, _ => have e := hf i (by simpa using hi) 1 (by omega); simp at e; exact ⟨_, e⟩
  | 2, _ => have e := hf i (by simpa using hi) 2 (by omega); simp at e; exact ⟨_, e⟩
  | 3, _ => have e := hf i (by simpa using hi) 3 (by omega); simp at e; exact ⟨_, e⟩
  | 4, _ => have e := hf i (by simpa using hi) 4 (by omega); simp at e; exact ⟨_, e⟩
  | 5, _ => have e := hf i (by simpa using hi) 5 (by omega); simp at e; exact ⟨_, e⟩
  | 6, _ => have e := hf i (by simpa using hi) 6 (by omega); simp at e; exact ⟨_, e⟩
theorem Fill.strsN {w : World} {B : Nat} {vs : List ByteArray} (h : Fill w B 9 1 vs.length (vs.map strX)) (hl : vs.length ≤ 1048576) : New StrsS B w (.slice (some ⟨B, 0, none⟩) vs.length vs.length) := by
  have hlt := h.lt
  obtain ⟨h0, h1, f, hr, hf⟩ := h
  refine ⟨B, vs.length, vs.length, f, rfl, ⟨Nat.le_refl _, hlt⟩, hl, hr, fun i hi j hj => ?_⟩
  match j, hj with
  | 0, _ => have e := hf i (by simpa using hi) 0 (by omega); simp at e; exact ⟨_, by simpa using e⟩
/-- Elements of one cell laid so far, each with memory of its own. -/
def Nfill (P : (Nat → Prop) → Shape) (w : World) (B : Nat) (T : TypeId) (n k : Nat) : Prop := ∃ f, w.rowIs B T n f ∧ ∀ i, i < k → New P (B + 1) w (f i)
theorem Nfill.on {P : (Nat → Prop) → Shape} (hP : Good P) {w w' : World} {B : Nat} {T : TypeId} {n k : Nat} (h : Nfill P w B T n k) (b : Below w.heap.size w w') : Nfill P w' B T n k := by
  obtain ⟨f, hr, hf⟩ := h
  exact ⟨f, hr.of_block (b.block B hr.lt), fun i hi => (hf i hi).on hP b⟩
theorem Nfill.put {P : (Nat → Prop) → Shape} (hP : Good P) {w : World} {B : Nat} {T : TypeId} {n k : Nat} (h : Nfill P w B T n k) {y : Value} (hy : New P (B + 1) w y) : Nfill P (w.setCell ⟨B, k, none⟩ y) B T n (k + 1) := by
  obtain ⟨f, hr, hf⟩ := h
  refine ⟨_, hr.set k y, fun i hi => ?_⟩
  by_cases e : i = k
  · subst e; simp only [if_true]; exact hy.set hP (by simp) _
  · simp only [if_neg e]; exact (hf i (by omega)).set hP (by simp) _
theorem Nfill.done {P : (Nat → Prop) → Shape} (hP : Good P) {w : World} {B : Nat} {T : TypeId} {n : Nat} (h : Nfill P w B T n n) (hn : n ≤ 1048576) : New (fun S => RowS S T [P S]) B w (.slice (some ⟨B, 0, none⟩) n n) := by
  obtain ⟨f, hr, hf⟩ := h
  refine ⟨B, n, n, f, rfl, ⟨Nat.le_refl _, hr.lt⟩, hn, by simpa using hr, fun i hi j hj => ?_⟩
  match j, hj with
  | 0, _ =>
    have h0 : New P B w (f i) := (hf i hi).mono hP (by omega)
    simpa using (show P (fun c => B ≤ c ∧ c < w.heap.size) w (f i) from h0)
end Go.Proofs.Ytiijahoheajppab
