/- Shapes that lie in new memory alone. The laws' copies with their shape: changes. -/
import Derived.Test.YtbjnonondnemhabMs
import Derived.Test.YtbjnonondnemhabFm
import Derived.Test.YtbjnonondnemhabSt
import Derived.Test.YtbjnonondnemhabFl
namespace Go.Proofs.Ytbjnonondnemhab
open Go.ChangeShapes Go.WideShapes Go.ChangeAt Go.RowKit

/-- It hangs on blocks of S alone. -/
def Holds (S : Nat → Prop) (P : Shape) : Prop := ∀ w w' u, (∀ c, S c → c < w.heap.size → w'.heap[c]? = w.heap[c]?) → P w u → P w' u
theorem IntS.holds (S : Nat → Prop) : Holds S IntS := fun _ _ _ _ h => h
theorem StrS.holds (S : Nat → Prop) : Holds S StrS := fun _ _ _ _ h => h
theorem BoolS.holds (S : Nat → Prop) : Holds S BoolS := fun _ _ _ _ h => h
theorem RowS.holds {S : Nat → Prop} {T : TypeId} {es : List Shape} (he : ∀ j (h : j < es.length), Holds S es[j]) : Holds S (RowS S T es) := fun w w' _ hb ⟨b, n, cap, f, e, hS, hn, hr, hf⟩ =>
  ⟨b, n, cap, f, e, hS, hn, hr.of_block (hb b hS hr.lt), fun i hi j hj => he j hj w w' _ hb (hf i hi j hj)⟩
/-- A shape for each set of blocks. -/
structure Good (P : (Nat → Prop) → Shape) : Prop where
  holds : ∀ S, Holds S (P S)
  mono : ∀ S S' w u, (∀ c, S c → S' c) → P S w u → P S' w u
theorem ValsS.good : Good ValsS := ⟨fun S => RowS.holds fun j h => by
    match j, h with
    | 0, _ => exact IntS.holds S
    | 1, _ => exact IntS.holds S
    | 2, _ => exact StrS.holds S, fun _ _ _ _ hs h => RowS.mono hs rfl (fun _ _ _ _ _ h => h) h⟩
theorem ColsS.good : Good ColsS := ⟨fun S => RowS.holds fun j h => by
    match j, h with
    | 0, _ => exact StrS.holds S
    | 1, _ => exact IntS.holds S
    | 2, _ => exact BoolS.holds S
    | 3, _ => exact BoolS.holds S
    | 4, _ => exact IntS.holds S
    | 5, _ => exact IntS.holds S
    | 6, _ => exact StrS.holds S, fun _ _ _ _ hs h => RowS.mono hs rfl (fun _ _ _ _ _ h => h) h⟩
theorem StrsS.good : Good StrsS := ⟨fun S => RowS.holds fun j h => by
    match j, h with
    | 0, _ => exact StrS.holds S, fun _ _ _ _ hs h => RowS.mono hs rfl (fun _ _ _ _ _ h => h) h⟩
theorem one_good {P : (Nat → Prop) → Shape} (hP : Good P) (T : TypeId) : Good (fun S => RowS S T [P S]) := ⟨fun S => RowS.holds fun j h => by
    match j, h with
    | 0, _ => exact hP.holds S, fun S S' _ _ hs h => RowS.mono (es := [P S]) (es' := [P S']) hs rfl (fun j hj hj' w u hu => by
      match j, hj with
      | 0, _ => exact hP.mono S S' w u hs hu) h⟩
theorem RowsS.good : Good RowsS := one_good ValsS.good _
theorem DataS.good : Good DataS := one_good RowsS.good _
theorem TabsS.good : Good TabsS := ⟨fun S => RowS.holds fun j h => by
    match j, h with
    | 0, _ => exact StrS.holds S
    | 1, _ => exact ColsS.good.holds S
    | 2, _ => exact StrsS.good.holds S, fun S S' _ _ hs h => RowS.mono (es := [StrS, ColsS S, StrsS S]) (es' := [StrS, ColsS S', StrsS S']) hs rfl (fun j hj hj' w u hu => by
      match j, hj with
      | 0, _ => exact hu
      | 1, _ => exact ColsS.good.mono S S' w u hs hu
      | 2, _ => exact StrsS.good.mono S S' w u hs hu) h⟩
/-- It lies in blocks from B on, that are there. -/
def New (P : (Nat → Prop) → Shape) (B : Nat) (w : World) (v : Value) : Prop := P (fun c => B ≤ c ∧ c < w.heap.size) w v
theorem New.at {P : (Nat → Prop) → Shape} (hP : Good P) {B : Nat} {w w' : World} {v : Value} (h : New P B w v) (k : Apart B w w') : New P B w' v :=
  hP.mono _ _ _ _ (fun _ hc => ⟨hc.1, Nat.lt_of_lt_of_le hc.2 k.1⟩) (hP.holds _ w w' v (fun c hc hl => k.2 c hc.1 hl) h)
theorem New.on {P : (Nat → Prop) → Shape} (hP : Good P) {B : Nat} {w w' : World} {v : Value} (h : New P B w v) (k : Below w.heap.size w w') : New P B w' v := h.at hP (Apart.of_below k)
theorem New.set {P : (Nat → Prop) → Shape} (hP : Good P) {B : Nat} {w : World} {v : Value} (h : New P B w v) {p : Addr} (hp : p.block < B) (u : Value) : New P B (w.setCell p u) v := h.at hP ((Apart.refl _ _).set hp u)
theorem New.mono {P : (Nat → Prop) → Shape} (hP : Good P) {B B' : Nat} {w : World} {v : Value} (h : New P B w v) (hB : B' ≤ B) : New P B' w v := hP.mono _ _ _ _ (fun _ hc => ⟨Nat.le_trans hB hc.1, hc.2⟩) h
theorem Fill.valsN {w : World} {B : Nat} {vs : List Vc} (h : Fill w B 84 3 vs.length (vs.map Vc.cells)) (hl : vs.length ≤ 1048576) : New ValsS B w (.slice (some ⟨B, 0, none⟩) vs.length vs.length) := by
  have hlt := h.lt
  obtain ⟨h0, h1, f, hr, hf⟩ := h
  refine ⟨B, vs.length, vs.length, f, rfl, ⟨Nat.le_refl _, hlt⟩, hl, hr, fun i hi j hj => ?_⟩
  match j, hj with
  | 0, _ => have e := hf i (by simpa using hi) 0 (by omega); simp at e; exact ⟨_, e⟩
  | 1, _ => have e := hf i (by simpa using hi) 1 (by omega); simp at e; exact ⟨_, e⟩
  | 2, _ => have e := hf i (by simpa using hi) 2 (by omega); simp at e; exact ⟨_, e⟩
theorem Fill.colsN {w : World} {B : Nat} {vs : List Cl} (h : Fill w B 86 7 vs.length (vs.map Cl.cells)) (hl : vs.length ≤ 1048576) : New ColsS B w (.slice (some ⟨B, 0, none⟩) vs.length vs.length) := by
  have hlt := h.lt
  obtain ⟨h0, h1, f, hr, hf⟩ := h
  refine ⟨B, vs.length, vs.length, f, rfl, ⟨Nat.le_refl _, hlt⟩, hl, hr, fun i hi j hj => ?_⟩
  match j, hj with
  | 0, _ => have e := hf i (by simpa using hi) 0 (by omega); simp at e; exact ⟨_, e⟩
  | 1, _ => have e := hf i (by simpa using hi) 1 (by omega); simp at e; exact ⟨_, e⟩
  | 2, _ => have e := hf i (by simpa using hi) 2 (by omega); simp at e; exact ⟨_, e⟩
  | 3, _ => have e := hf i (by simpa using hi) 3 (by omega); simp at e; exact ⟨_, e⟩
  | 4, _ => have e := hf i (by simpa using hi) 4 (by omega); simp at e; exact ⟨_, e⟩
  | 5, _ => have e := hf i (by simpa using hi) 5 (by omega); simp at e; exact ⟨_, e⟩
  | 6, _ => have e := hf i (by simpa using hi) 6 (by omega); simp at e; exact ⟨_, e⟩
theorem Fill.strsN {w : World} {B : Nat} {vs : List ByteArray} (h : Fill w B 9 1 vs.length (vs.map strX)) (hl : vs.length ≤ 1048576) : New StrsS B w (.slice (some ⟨B, 0, none⟩) vs.length vs.length) := by
  have hlt := h.lt
  obtain ⟨h0, h1, f, hr, hf⟩ := h
  refine ⟨B, vs.length, vs.length, f, rfl, ⟨Nat.le_refl _, hlt⟩, hl, hr, fun i hi j hj => ?_⟩
  match j, hj with
  | 0, _ => have e := hf i (by simpa using hi) 0 (by omega); simp at e; exact ⟨_, by simpa using e⟩
/-- Elements of one cell laid so far, each with memory of its own. -/
def Nfill (P : (Nat → Prop) → Shape) (w : World) (B : Nat) (T : TypeId) (n k : Nat) : Prop := ∃ f, w.rowIs B T n f ∧ ∀ i, i < k → New P (B + 1) w (f i)
theorem Nfill.on {P : (Nat → Prop) → Shape} (hP : Good P) {w w' : World} {B : Nat} {T : TypeId} {n k : Nat} (h : Nfill P w B T n k) (b : Below w.heap.size w w') : Nfill P w' B T n k := by
  obtain ⟨f, hr, hf⟩ := h
  exact ⟨f, hr.of_block (b.block B hr.lt), fun i hi => (hf i hi).on hP b⟩
theorem Nfill.put {P : (Nat → Prop) → Shape} (hP : Good P) {w : World} {B : Nat} {T : TypeId} {n k : Nat} (h : Nfill P w B T n k) {y : Value} (hy : New P (B + 1) w y) : Nfill P (w.setCell ⟨B, k, none⟩ y) B T n (k + 1) := by
  obtain ⟨f, hr, hf⟩ := h
  refine ⟨_, hr.set k y, fun i hi => ?_⟩
  by_cases e : i = k
  · subst e; simp only [if_true]; exact hy.set hP (by simp) _
  · simp only [if_neg e]; exact (hf i (by omega)).set hP (by simp) _
theorem Nfill.done {P : (Nat → Prop) → Shape} (hP : Good P) {w : World} {B : Nat} {T : TypeId} {n : Nat} (h : Nfill P w B T n n) (hn : n ≤ 1048576) : New (fun S => RowS S T [P S]) B w (.slice (some ⟨B, 0, none⟩) n n) := by
  obtain ⟨f, hr, hf⟩ := h
  refine ⟨B, n, n, f, rfl, ⟨Nat.le_refl _, hr.lt⟩, hn, by simpa using hr, fun i hi j hj => ?_⟩
  match j, hj with
  | 0, _ =>
    have h0 : New P B w (f i) := (hf i hi).mono hP (by omega)
    simpa using (show P (fun c => B ≤ c ∧ c < w.heap.size) w (f i) from h0)
end Go.Proofs.Ytbjnonondnemhab

namespace Go.Proofs.Ytbjnonondnemhab
open Go.ChangeShapes Go.WideShapes Go.ChangeAt Go.RowKit

/-- Read as that, and in new memory alone. -/
def ValsN (B : Nat) (w : World) (v : Value) (l : List Vc) : Prop := ValsV w v l ∧ New ValsS B w v
def ColsN (B : Nat) (w : World) (v : Value) (l : List Cl) : Prop := ColsV w v l ∧ New ColsS B w v
def StrsN (B : Nat) (w : World) (v : Value) (l : List ByteArray) : Prop := StrsV w v l ∧ New StrsS B w v
def DdlN (B : Nat) (w : World) (x : Array Value) (d : Dc) : Prop := ∃ cv kv, x = #[.int .i64 d.kind, .string d.table, cv, kv, .string d.name, .string d.to] ∧ ColsN B w cv d.cols ∧ StrsN B w kv d.keys
def StmtN (B : Nat) (w : World) (x : Array Value) (s : Sc) : Prop := ∃ k r c o, x = s.cells k r c o ∧ ValsN B w k s.key ∧ ValsN B w r s.row ∧ ColsN B w c s.ddl.cols ∧ StrsN B w o s.ddl.keys
theorem StmtN.stmt {B : Nat} {w : World} {x : Array Value} {s : Sc} (h : StmtN B w x s) : StmtV w x s := by
  obtain ⟨k, r, c, o, e, h1, h2, h3, h4⟩ := h; exact ⟨k, r, c, o, e, h1.1, h2.1, h3.1, h4.1⟩
theorem DdlN.lit {B : Nat} {w : World} {x : Array Value} {t : Dc} (h : DdlN B w x t) : ∃ a p b q, x = #[.int .i64 t.kind, .string t.table, .slice a t.cols.length p, .slice b t.keys.length q, .string t.name, .string t.to] ∧ DdlN B w #[.int .i64 t.kind, .string t.table, .slice a t.cols.length p, .slice b t.keys.length q, .string t.name, .string t.to] t := by
  obtain ⟨cv, kv, rfl, h1, h2⟩ := h
  obtain ⟨a, p, rfl, _⟩ := id h1.1
  obtain ⟨b, q, rfl, _⟩ := id h2.1
  exact ⟨a, p, b, q, rfl, _, _, rfl, h1, h2⟩
theorem Fill.firmCols {w : World} {B : Nat} {cs : List Cl} (h : Fill w B 86 7 cs.length (cs.map Cl.cells)) (hl : cs.length ≤ 1048576) {b : Nat} (hb : b ≤ B) : Firm B (fun u => ColsN b u (.slice (some ⟨B, 0, none⟩) cs.length cs.length) cs) w :=
  (h.firm (Nat.le_refl _)).imp fun u hu => ⟨hu.colsV (by unfold maxLen; omega), (hu.colsN hl).mono ColsS.good hb⟩
theorem Fill.firmStrs {w : World} {B : Nat} {cs : List ByteArray} (h : Fill w B 9 1 cs.length (cs.map strX)) (hl : cs.length ≤ 1048576) {b : Nat} (hb : b ≤ B) : Firm B (fun u => StrsN b u (.slice (some ⟨B, 0, none⟩) cs.length cs.length) cs) w :=
  (h.firm (Nat.le_refl _)).imp fun u hu => ⟨hu.strsV (by unfold maxLen; omega), (hu.strsN hl).mono StrsS.good hb⟩
theorem Fill.firmVals {w : World} {B : Nat} {cs : List Vc} (h : Fill w B 84 3 cs.length (cs.map Vc.cells)) (hl : cs.length ≤ 1048576) {b : Nat} (hb : b ≤ B) : Firm B (fun u => ValsN b u (.slice (some ⟨B, 0, none⟩) cs.length cs.length) cs) w :=
  (h.firm (Nat.le_refl _)).imp fun u hu => ⟨hu.valsV (by unfold maxLen; omega), (hu.valsN hl).mono ValsS.good hb⟩

set_option maxRecDepth 100000 in
set_option maxHeartbeats 2000000 in
/-- laws.toDdl -/
theorem toDdl_full (x : Array Value) (t : Dc) (w : World) (hx : DdlV w x t) (hf : t.few) :
    Calls Try.prog 168 #[.agg x] w fun e w' => ∃ y, e = .returned (.agg y) ∧ Below w.heap.size w w' ∧ Firm w.heap.size (fun u => DdlN w.heap.size u y t) w' := by
  obtain ⟨cv, kv, rfl, hc, hk⟩ := hx
  obtain ⟨kind, table, cs, ks, name, to⟩ := t
  obtain ⟨hfc, hfk⟩ := hf
  simp only at hfc hfk hc hk
  have HC : Hid (ColsV w cv cs) := hc
  have HK : Hid (StrsV w kv ks) := hk
  have HL := Loc.new w #[.int .i64 kind, .string table, cv, kv, .string name, .string to] 149
  clear hc hk
  go_enter Try.func168, Try.ntmps168
  go_wp2_with fail
  have hb0 : Below w.heap.size w (((w.alloc (.cells #[.int .i64 kind, .string table, cv, kv, .string name, .string to] 149)).alloc (.cells #[.int .i64 0, .string { data := #[] }, .slice none 0 0, .slice none 0 0, .string { data := #[] }, .string { data := #[] }] 65)).alloc (.cells #[.int .i64 kind, .string table, .slice none 0 0, .slice none 0 0, .string { data := #[] }, .string { data := #[] }] 65)) := (by repeat (first | with_reducible exact Below.refl _ _ | with_reducible assumption | with_reducible refine ch_alloc ?_ _ | with_reducible refine Below.drew ?_ | with_reducible refine below_draws _ ?_ | (with_reducible refine Below.setCell ?_ ?_ _; rotate_left; focus (first | with_reducible exact Nat.le_refl _ | (simp; done) | (simp; omega) | (simp at *; omega))) | with_reducible refine ch_trans ?_ (by with_reducible assumption)))
  have HQ := Own.at (w.alloc (.cells #[.int .i64 kind, .string table, cv, kv, .string name, .string to] 149)) 65 #[.int .i64 0, .string { data := #[] }, .slice none 0 0, .slice none 0 0, .string { data := #[] }, .string { data := #[] }] (n := w.heap.size + 1) (by simp)
  have HO := Own.at ((w.alloc (.cells #[.int .i64 kind, .string table, cv, kv, .string name, .string to] 149)).alloc (.cells #[.int .i64 0, .string { data := #[] }, .slice none 0 0, .slice none 0 0, .string { data := #[] }, .string { data := #[] }] 65)) 65 #[.int .i64 kind, .string table, .slice none 0 0, .slice none 0 0, .string { data := #[] }, .string { data := #[] }] (n := w.heap.size + 1 + 1) (by simp)
  have HQ0 := HQ.on (ch_alloc (Below.refl _ _) (.cells #[.int .i64 kind, .string table, .slice none 0 0, .slice none 0 0, .string { data := #[] }, .string { data := #[] }] 65))
  have HL0 := (HL.on1 (.cells #[.int .i64 0, .string { data := #[] }, .slice none 0 0, .slice none 0 0, .string { data := #[] }, .string { data := #[] }] 65)).on1 (.cells #[.int .i64 kind, .string table, .slice none 0 0, .slice none 0 0, .string { data := #[] }, .string { data := #[] }] 65)
  have hs0 : w.heap.size + 1 + 1 + 1 ≤ ((((w.alloc (.cells #[.int .i64 kind, .string table, cv, kv, .string name, .string to] 149)).alloc (.cells #[.int .i64 0, .string { data := #[] }, .slice none 0 0, .slice none 0 0, .string { data := #[] }, .string { data := #[] }] 65)).alloc (.cells #[.int .i64 kind, .string table, .slice none 0 0, .slice none 0 0, .string { data := #[] }, .string { data := #[] }] 65))).heap.size := by simp
  clear HL HQ
  generalize (((w.alloc (.cells #[.int .i64 kind, .string table, cv, kv, .string name, .string to] 149)).alloc (.cells #[.int .i64 0, .string { data := #[] }, .slice none 0 0, .slice none 0 0, .string { data := #[] }, .string { data := #[] }] 65)).alloc (.cells #[.int .i64 kind, .string table, .slice none 0 0, .slice none 0 0, .string { data := #[] }, .string { data := #[] }] 65)) = u0 at hb0 HO HQ0 HL0 hs0 ⊢
  refine (toColS_full cv cs _ (HC.out.on hb0) hfc).mono ?_
  rintro e w1 ⟨rfl, b1, hy⟩
  have HY : Hid (Firm (w.heap.size + 1 + 1 + 1) (fun u => ColsN w.heap.size u (.slice (some ⟨u0.heap.size, 0, none⟩) cs.length cs.length) cs) w1) := (hy.firmCols hfc (by omega)).mono hs0
  have hb1 := ch_trans hb0 b1
  have HO1 := HO.on b1
  have HQ1 := HQ0.on b1
  have HL1 := HL0.on b1
  have hs1 : w.heap.size + 1 + 1 + 1 ≤ w1.heap.size := by have := b1.size; omega
  generalize u0.heap.size = B1 at HY ⊢
  clear hy hb0 b1 HO HQ0 HL0 hs0
  obtain ⟨c0, c1, c2, c3, c4, c5⟩ := HL1.six
  obtain ⟨d0, d1, d2, d3, d4, d5⟩ := HO1.loc.six
  have f2 := HO1.frozen 2
  go_wp2_with fail
  have HO2 := HO1.set 2 (.slice (some ⟨B1, 0, none⟩) cs.length cs.length)
  have HQ2 := HQ1.other (p := ⟨w.heap.size + 1 + 1, 2, none⟩) (by simp) (.slice (some ⟨B1, 0, none⟩) cs.length cs.length)
  have hb2 : Below w.heap.size w (w1.setCell ⟨w.heap.size + 1 + 1, 2, none⟩ (.slice (some ⟨B1, 0, none⟩) cs.length cs.length)) := (by repeat (first | with_reducible exact Below.refl _ _ | with_reducible assumption | with_reducible refine ch_alloc ?_ _ | with_reducible refine Below.drew ?_ | with_reducible refine below_draws _ ?_ | (with_reducible refine Below.setCell ?_ ?_ _; rotate_left; focus (first | with_reducible exact Nat.le_refl _ | (simp; done) | (simp; omega) | (simp at *; omega))) | with_reducible refine ch_trans ?_ (by with_reducible assumption)))
  have HL2 := HL1.other (p := ⟨w.heap.size + 1 + 1, 2, none⟩) (by simp; omega) (.slice (some ⟨B1, 0, none⟩) cs.length cs.length)
  have HY2 : Hid (Firm (w.heap.size + 1 + 1 + 1) (fun u => ColsN w.heap.size u (.slice (some ⟨B1, 0, none⟩) cs.length cs.length) cs) (w1.setCell ⟨w.heap.size + 1 + 1, 2, none⟩ (.slice (some ⟨B1, 0, none⟩) cs.length cs.length))) := HY.out.set (by simp) _
  have hs2 : w.heap.size + 1 + 1 + 1 ≤ (w1.setCell ⟨w.heap.size + 1 + 1, 2, none⟩ (.slice (some ⟨B1, 0, none⟩) cs.length cs.length)).heap.size := by simpa using hs1
  clear HY hs1 HO1 HQ1 HL1 hb1 c0 c1 c2 c3 c4 c5 d0 d1 d2 d3 d4 d5 f2
  generalize (w1.setCell ⟨w.heap.size + 1 + 1, 2, none⟩ (.slice (some ⟨B1, 0, none⟩) cs.length cs.length)) = u1 at HO2 HQ2 hb2 HL2 HY2 hs2 ⊢
  refine (toStringS_full kv ks _ (HK.out.on hb2) hfk).mono ?_
  rintro e w2 ⟨rfl, b2, hy⟩
  have HZ : Hid (Firm (w.heap.size + 1 + 1 + 1) (fun u => StrsN w.heap.size u (.slice (some ⟨u1.heap.size, 0, none⟩) ks.length ks.length) ks) w2) := (hy.firmStrs hfk (by omega)).mono hs2
  have HF6 : Hid (Firm (w.heap.size + 1 + 1 + 1) (fun u => DdlN w.heap.size u #[.int .i64 kind, .string table, .slice (some ⟨B1, 0, none⟩) cs.length cs.length, .slice (some ⟨u1.heap.size, 0, none⟩) ks.length ks.length, .string name, .string to] ⟨kind, table, cs, ks, name, to⟩) w2) := ((HY2.out.on b2).and HZ.out).imp fun u ⟨h1, h2⟩ => ⟨_, _, rfl, h1, h2⟩
  have hb3 := ch_trans hb2 b2
  have HO3 := HO2.on b2
  have HQ3 := HQ2.on b2
  have HL3 := HL2.on b2
  generalize u1.heap.size = B2 at HF6 ⊢
  clear hy b2 HO2 HQ2 HL2 hb2 hs2 HY2 HZ
  obtain ⟨c0, c1, c2, c3, c4, c5⟩ := HL3.six
  obtain ⟨d0, d1, d2, d3, d4, d5⟩ := HO3.loc.six
  have f3 := HO3.frozen 3
  have f4 := HO3.frozen 4
  have f5 := HO3.frozen 5
  obtain ⟨g0, g1, g2, g3, g4, g5⟩ := HQ3.loc.six
  have i0 := HQ3.frozen 0
  have i1 := HQ3.frozen 1
  have i2 := HQ3.frozen 2
  have i3 := HQ3.frozen 3
  have i4 := HQ3.frozen 4
  have i5 := HQ3.frozen 5
  go_wp2
  have HQ4 : Own (((((((((w2.setCell ⟨w.heap.size + 1 + 1, 3, none⟩ (.slice (some ⟨B2, 0, none⟩) ks.length ks.length)).setCell ⟨w.heap.size + 1 + 1, 4, none⟩ (.string name)).setCell ⟨w.heap.size + 1 + 1, 5, none⟩ (.string to)).setCell ⟨w.heap.size + 1, 0, none⟩ (.int .i64 kind)).setCell ⟨w.heap.size + 1, 1, none⟩ (.string table)).setCell ⟨w.heap.size + 1, 2, none⟩ (.slice (some ⟨B1, 0, none⟩) cs.length cs.length)).setCell ⟨w.heap.size + 1, 3, none⟩ (.slice (some ⟨B2, 0, none⟩) ks.length ks.length)).setCell ⟨w.heap.size + 1, 4, none⟩ (.string name)).setCell ⟨w.heap.size + 1, 5, none⟩ (.string to)) _ _ #[.int .i64 kind, .string table, .slice (some ⟨B1, 0, none⟩) cs.length cs.length, .slice (some ⟨B2, 0, none⟩) ks.length ks.length, .string name, .string to] := (Own.past (c := w.heap.size + 1 + 1) (by omega) [.slice (some ⟨B2, 0, none⟩) ks.length ks.length, .string name, .string to] _ 3 HQ3).fill (old := [_, _, _, _, _, _]) [.int .i64 kind, .string table, .slice (some ⟨B1, 0, none⟩) cs.length cs.length, .slice (some ⟨B2, 0, none⟩) ks.length ks.length, .string name, .string to] rfl
  have HF7 : Hid (Firm (w.heap.size + 1 + 1 + 1) (fun u => DdlN w.heap.size u #[.int .i64 kind, .string table, .slice (some ⟨B1, 0, none⟩) cs.length cs.length, .slice (some ⟨B2, 0, none⟩) ks.length ks.length, .string name, .string to] ⟨kind, table, cs, ks, name, to⟩) (((((((((w2.setCell ⟨w.heap.size + 1 + 1, 3, none⟩ (.slice (some ⟨B2, 0, none⟩) ks.length ks.length)).setCell ⟨w.heap.size + 1 + 1, 4, none⟩ (.string name)).setCell ⟨w.heap.size + 1 + 1, 5, none⟩ (.string to)).setCell ⟨w.heap.size + 1, 0, none⟩ (.int .i64 kind)).setCell ⟨w.heap.size + 1, 1, none⟩ (.string table)).setCell ⟨w.heap.size + 1, 2, none⟩ (.slice (some ⟨B1, 0, none⟩) cs.length cs.length)).setCell ⟨w.heap.size + 1, 3, none⟩ (.slice (some ⟨B2, 0, none⟩) ks.length ks.length)).setCell ⟨w.heap.size + 1, 4, none⟩ (.string name)).setCell ⟨w.heap.size + 1, 5, none⟩ (.string to))) := Firm.stores (b := w.heap.size + 1) (by omega) [.int .i64 kind, .string table, .slice (some ⟨B1, 0, none⟩) cs.length cs.length, .slice (some ⟨B2, 0, none⟩) ks.length ks.length, .string name, .string to] _ 0 (Firm.stores (b := w.heap.size + 1 + 1) (by omega) [.slice (some ⟨B2, 0, none⟩) ks.length ks.length, .string name, .string to] _ 3 HF6.out)
  have HB : Hid (Below w.heap.size w (((((((((w2.setCell ⟨w.heap.size + 1 + 1, 3, none⟩ (.slice (some ⟨B2, 0, none⟩) ks.length ks.length)).setCell ⟨w.heap.size + 1 + 1, 4, none⟩ (.string name)).setCell ⟨w.heap.size + 1 + 1, 5, none⟩ (.string to)).setCell ⟨w.heap.size + 1, 0, none⟩ (.int .i64 kind)).setCell ⟨w.heap.size + 1, 1, none⟩ (.string table)).setCell ⟨w.heap.size + 1, 2, none⟩ (.slice (some ⟨B1, 0, none⟩) cs.length cs.length)).setCell ⟨w.heap.size + 1, 3, none⟩ (.slice (some ⟨B2, 0, none⟩) ks.length ks.length)).setCell ⟨w.heap.size + 1, 4, none⟩ (.string name)).setCell ⟨w.heap.size + 1, 5, none⟩ (.string to))) := by
    show Below _ _ _
    exact stores_below (b := w.heap.size + 1) (by omega) [.int .i64 kind, .string table, .slice (some ⟨B1, 0, none⟩) cs.length cs.length, .slice (some ⟨B2, 0, none⟩) ks.length ks.length, .string name, .string to] _ 0 (stores_below (b := w.heap.size + 1 + 1) (by omega) [.slice (some ⟨B2, 0, none⟩) ks.length ks.length, .string name, .string to] _ 3 hb3)
  generalize (((((((((w2.setCell ⟨w.heap.size + 1 + 1, 3, none⟩ (.slice (some ⟨B2, 0, none⟩) ks.length ks.length)).setCell ⟨w.heap.size + 1 + 1, 4, none⟩ (.string name)).setCell ⟨w.heap.size + 1 + 1, 5, none⟩ (.string to)).setCell ⟨w.heap.size + 1, 0, none⟩ (.int .i64 kind)).setCell ⟨w.heap.size + 1, 1, none⟩ (.string table)).setCell ⟨w.heap.size + 1, 2, none⟩ (.slice (some ⟨B1, 0, none⟩) cs.length cs.length)).setCell ⟨w.heap.size + 1, 3, none⟩ (.slice (some ⟨B2, 0, none⟩) ks.length ks.length)).setCell ⟨w.heap.size + 1, 4, none⟩ (.string name)).setCell ⟨w.heap.size + 1, 5, none⟩ (.string to)) = W at HQ4 HF7 HB ⊢
  obtain ⟨e0, e1, e2, e3, e4, e5⟩ := HQ4.loc.six
  exact bodyPost_ret (v := .agg #[.int .i64 kind, .string table, .slice (some ⟨B1, 0, none⟩) cs.length cs.length, .slice (some ⟨B2, 0, none⟩) ks.length ks.length, .string name, .string to]) (by simp [results, Try.results168, go_sem, e0, e1, e2, e3, e4, e5]) rfl ⟨_, rfl, HB.out, HF7.out.mono (by omega)⟩
end Go.Proofs.Ytbjnonondnemhab
