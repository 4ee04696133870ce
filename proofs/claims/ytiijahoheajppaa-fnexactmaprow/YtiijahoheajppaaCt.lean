/- Lists of rows in memory: the laws' size, copy and look. Catalogs in memory: the laws' size, copy and look. -/
import Derived.Test.YtiijahoheajppaaRw
import Derived.Test.YtiijahoheajppaaTab
namespace Go.Proofs.Ytiijahoheajppaa
open Go.ChangeShapes Go.WideShapes Go.ChangeAt Go.RowKit

abbrev one1 (v : Value) : Array Value := #[v]
/-- Rows behind a slice. -/
def RowsV (w : World) (v : Value) (rs : List (List Vc)) : Prop := ∃ a cap xs, v = .slice a rs.length cap ∧ rs.length ≤ cap ∧ cap ≤ maxLen ∧ RowAt w a 1 (List.map one1 xs) ∧ xs.length = rs.length ∧ ∀ i (h : i < xs.length) (g : i < rs.length), ValsV w xs[i] rs[i]
theorem RowsV.on {w w' : World} {v : Value} {rs : List (List Vc)} (h : RowsV w v rs) (b : Below w.heap.size w w') : RowsV w' v rs := by
  obtain ⟨a, cap, xs, e, h1, h2, h3, h4, h5⟩ := h; exact ⟨a, cap, xs, e, h1, h2, h3.on b, h4, fun i h g => (h5 i h g).on b⟩
theorem RowsV.lit {w : World} {v : Value} {rs : List (List Vc)} (h : RowsV w v rs) : ∃ a cap, v = .slice a rs.length cap ∧ rs.length ≤ cap ∧ cap ≤ maxLen ∧ RowsV w (.slice a rs.length cap) rs := by
  obtain ⟨a, cap, xs, rfl, h1, h2, h3⟩ := h; exact ⟨a, cap, rfl, h1, h2, a, cap, xs, rfl, h1, h2, h3⟩
theorem RowsV.rw {w : World} {a : Option Addr} {n cap : Nat} {rs : List (List Vc)} (h : RowsV w (.slice a n cap) rs) (k : Nat) (hk : k < rs.length) : ∃ b off c p, a = some ⟨b, off, none⟩ ∧
    w.cell? ⟨b, off + k, none⟩ = some (.slice c rs[k].length p) ∧ ValsV w (.slice c rs[k].length p) rs[k] := by
  obtain ⟨a', cap', xs, e, h1, h2, h3, h4, h5⟩ := h
  cases e
  rcases h3.2 with h0 | ⟨b, off, ha, h⟩
  · rw [List.map_eq_nil_iff] at h0; subst h0; simp at h4; omega
  · obtain ⟨c, p, ex, _, _, hx⟩ := (h5 k (by omega) hk).lit
    have e0 := h k (by simp; omega) 0 (by omega)
    simp only [List.getElem_map, Nat.mul_one, Nat.add_zero] at e0
    rw [ex] at e0
    exact ⟨b, off, c, p, ha, e0, hx⟩
theorem ValsV.stores {v : Value} {vs : List Vc} {B b : Nat} (hf : From v B) (hb : b < B) : ∀ (us : List Value) (w : World) (o : Nat), ValsV w v vs → ValsV (stores w b o us) v vs
  | [], _, _, h => h
  | u :: r, _, o, h => ValsV.stores hf hb r _ (o + 1) (h.set hf hb u)
/-- Rows copied so far. -/
def Rfill (w : World) (B : Nat) (T : TypeId) (rs : List (List Vc)) (k : Nat) : Prop := ∃ ys, Fill w B T 1 rs.length (List.map one1 ys) ∧ ys.length = k ∧ ∀ i (h : i < ys.length) (g : i < rs.length), ValsV w ys[i] rs[i] ∧ From ys[i] (B + 1)
theorem Rfill.on {w w' : World} {B : Nat} {T : TypeId} {rs : List (List Vc)} {k : Nat} (h : Rfill w B T rs k) (b : Below w.heap.size w w') : Rfill w' B T rs k := by
  obtain ⟨ys, h1, h2, h3⟩ := h
  exact ⟨ys, h1.on b, h2, fun i h g => ⟨(h3 i h g).1.on b, (h3 i h g).2⟩⟩
theorem Rfill.put {w : World} {B : Nat} {T : TypeId} {rs : List (List Vc)} {k : Nat} (h : Rfill w B T rs k) (hk : k < rs.length) {y : Value} (hy : ValsV w y rs[k]) (hf : From y (B + 1)) : Rfill (stores w B k [y]) B T rs (k + 1) := by
  obtain ⟨ys, h1, rfl, h3⟩ := h
  refine ⟨ys ++ [y], ?_, by simp, fun i h g => ?_⟩
  · have := h1.put (by simpa using hk) [y] rfl
    simpa using this
  · by_cases hi : i < ys.length
    · rw [List.getElem_append_left hi]
      exact ⟨ValsV.stores (h3 i hi g).2 (by omega) _ _ _ (h3 i hi g).1, (h3 i hi g).2⟩
    · simp at h
      have : i = ys.length := by omega
      subst this
      simp only [List.getElem_append_right (Nat.le_refl _), Nat.sub_self, List.getElem_cons_zero]
      exact ⟨ValsV.stores hf (by omega) _ _ _ hy, hf⟩
theorem Rfill.done {w : World} {B : Nat} {T : TypeId} {rs : List (List Vc)} (h : Rfill w B T rs rs.length) (hm : rs.length ≤ maxLen) : RowsV w (.slice (some ⟨B, 0, none⟩) rs.length rs.length) rs := by
  obtain ⟨ys, h1, h2, h3⟩ := h
  exact ⟨_, _, ys, rfl, Nat.le_refl _, hm, h1.row, h2, fun i h g => (h3 i h g).1⟩
def rfits (rs : List (List Vc)) : Prop := ∀ r ∈ rs, vfit r
def rfews (rs : List (List Vc)) : Prop := rs.length ≤ 1048576 ∧ ∀ r ∈ rs, r.length ≤ 1048576

end Go.Proofs.Ytiijahoheajppaa

namespace Go.Proofs.Ytiijahoheajppaa
open Go.ChangeShapes Go.WideShapes Go.ChangeAt Go.RowKit

/-- Tables behind a slice. -/
def TabsV (w : World) (v : Value) (ts : List Tc) : Prop := ∃ a cap xs, v = .slice a ts.length cap ∧ ts.length ≤ cap ∧ cap ≤ maxLen ∧ RowAt w a 3 xs ∧ xs.length = ts.length ∧ ∀ i (h : i < xs.length) (g : i < ts.length), TabV w xs[i] ts[i]
theorem TabsV.on {w w' : World} {v : Value} {ts : List Tc} (h : TabsV w v ts) (b : Below w.heap.size w w') : TabsV w' v ts := by
  obtain ⟨a, cap, xs, e, h1, h2, h3, h4, h5⟩ := h; exact ⟨a, cap, xs, e, h1, h2, h3.on b, h4, fun i h g => (h5 i h g).on b⟩
theorem TabsV.lit {w : World} {v : Value} {ts : List Tc} (h : TabsV w v ts) : ∃ a cap, v = .slice a ts.length cap ∧ ts.length ≤ cap ∧ cap ≤ maxLen := by
  obtain ⟨a, cap, xs, e, h1, h2, _⟩ := h; exact ⟨a, cap, e, h1, h2⟩
theorem TabsV.tab {w : World} {a : Option Addr} {n cap : Nat} {ts : List Tc} (h : TabsV w (.slice a n cap) ts) (k : Nat) (hk : k < ts.length) : ∃ b off c1 p1 c2 p2, a = some ⟨b, off, none⟩ ∧
    w.cell? ⟨b, off + k * 3, none⟩ = some (.string ts[k].name) ∧ w.cell? ⟨b, off + k * 3 + 1, none⟩ = some (.slice c1 ts[k].cols.length p1) ∧ w.cell? ⟨b, off + k * 3 + 2, none⟩ = some (.slice c2 ts[k].keys.length p2) ∧
    TabV w #[.string ts[k].name, .slice c1 ts[k].cols.length p1, .slice c2 ts[k].keys.length p2] ts[k] := by
  obtain ⟨a', cap', xs, e, h1, h2, h3, h4, h5⟩ := h
  cases e
  rcases h3.2 with h0 | ⟨b, off, ha, h⟩
  · subst h0; simp at h4; omega
  · obtain ⟨c1, p1, c2, p2, ex, hx, _⟩ := (h5 k (by omega) hk).lit
    have e0 := h k (by omega) 0 (by omega)
    have e1 := h k (by omega) 1 (by omega)
    have e2 := h k (by omega) 2 (by omega)
    rw [ex] at e0 e1 e2
    exact ⟨b, off, c1, p1, c2, p2, ha, e0, e1, e2, hx⟩
theorem TabV.set {w : World} {x : Array Value} {t : Tc} (h : TabV w x t) {B : Nat} (hf : TabFrom x B) {p : Addr} (hp : p.block < B) (u : Value) : TabV (w.setCell p u) x t := by
  obtain ⟨cv, kv, rfl, hc, hk⟩ := h
  exact ⟨cv, kv, rfl, hc.set (hf cv (by simp)) hp u, hk.set (hf kv (by simp)) hp u⟩
theorem TabV.stores {x : Array Value} {t : Tc} {B b : Nat} (hf : TabFrom x B) (hb : b < B) : ∀ (vs : List Value) (w : World) (o : Nat), TabV w x t → TabV (stores w b o vs) x t
  | [], _, _, h => h
  | v :: r, _, o, h => TabV.stores hf hb r _ (o + 1) (h.set hf hb v)
/-- Tables copied so far. -/
def Tfill (w : World) (B : Nat) (T : TypeId) (ts : List Tc) (k : Nat) : Prop := ∃ ys, Fill w B T 3 ts.length ys ∧ ys.length = k ∧ ∀ i (h : i < ys.length) (g : i < ts.length), TabV w ys[i] ts[i] ∧ TabFrom ys[i] (B + 1)
theorem Tfill.on {w w' : World} {B : Nat} {T : TypeId} {ts : List Tc} {k : Nat} (h : Tfill w B T ts k) (b : Below w.heap.size w w') : Tfill w' B T ts k := by
  obtain ⟨ys, h1, h2, h3⟩ := h
  exact ⟨ys, h1.on b, h2, fun i h g => ⟨(h3 i h g).1.on b, (h3 i h g).2⟩⟩
theorem Tfill.put {w : World} {B : Nat} {T : TypeId} {ts : List Tc} {k : Nat} (h : Tfill w B T ts k) (hk : k < ts.length) {y : Array Value} (hy : TabV w y ts[k]) (hf : TabFrom y (B + 1)) (hz : y.size = 3) : Tfill (stores w B (k * 3) y.toList) B T ts (k + 1) := by
  obtain ⟨ys, h1, rfl, h3⟩ := h
  refine ⟨ys ++ [y], ?_, by simp, fun i h g => ?_⟩
  · have := h1.put hk y.toList (by simpa using hz)
    simpa using this
  · by_cases hi : i < ys.length
    · rw [List.getElem_append_left hi]
      exact ⟨TabV.stores (h3 i hi g).2 (by omega) _ _ _ (h3 i hi g).1, (h3 i hi g).2⟩
    · simp at h
      have : i = ys.length := by omega
      subst this
      simp only [List.getElem_append_right (Nat.le_refl _), Nat.sub_self, List.getElem_cons_zero]
      exact ⟨TabV.stores hf (by omega) _ _ _ hy, hf⟩
/-- The tables' own rows, and the tables', lie from block B on. -/
def TabsFrom (w : World) (v : Value) (B : Nat) : Prop := From v B ∧ ∀ a n cap, v = .slice (some a) n cap → ∀ i, i < n → ∀ j, j < 3 → ∀ u, w.cell? ⟨a.block, a.off + i * 3 + j, none⟩ = some u → From u B
theorem Tfill.done {w : World} {B : Nat} {T : TypeId} {ts : List Tc} (h : Tfill w B T ts ts.length) (hm : ts.length ≤ maxLen) : TabsV w (.slice (some ⟨B, 0, none⟩) ts.length ts.length) ts ∧ TabsFrom w (.slice (some ⟨B, 0, none⟩) ts.length ts.length) B := by
  obtain ⟨ys, h1, h2, h3⟩ := h
  refine ⟨⟨_, _, ys, rfl, Nat.le_refl _, hm, h1.row, h2, fun i h g => (h3 i h g).1⟩, from_new _ _ _, ?_⟩
  rintro a n cap e i hi j hj u hu
  cases e
  obtain ⟨hz, h0 | ⟨b, off, e, hr⟩⟩ := h1.row
  · subst h0; simp at h2; omega
  · cases e
    have hs := hz ys[i] (List.getElem_mem (by omega))
    rw [hr i (by omega) j hj, Array.getElem?_eq_getElem (by omega)] at hu
    cases hu
    exact ((h3 i (by omega) hi).2 _ (by simp)).mono (by omega)
/-- Tables behind a slice, in memory from block B on. -/
def TabsN (w : World) (v : Value) (ts : List Tc) (B : Nat) : Prop := TabsV w v ts ∧ TabsFrom w v B
theorem TabsN.on {w w' : World} {v : Value} {ts : List Tc} {B : Nat} (h : TabsN w v ts B) (k : Below w.heap.size w w') : TabsN w' v ts B := by
  refine ⟨h.1.on k, h.2.1, fun a n cap e i hi j hj u hu => h.2.2 a n cap e i hi j hj u ?_⟩
  obtain ⟨a', cap', xs, e', h1, h2, h3, h4, h5⟩ := h.1
  subst e
  cases e'
  rcases h3.2 with h0 | ⟨b, off, e, hr⟩
  · subst h0; simp at h4; omega
  · cases e
    have hs := h3.1 xs[i] (List.getElem_mem (by omega))
    have hc := hr i (by omega) j hj
    rw [Array.getElem?_eq_getElem (by omega)] at hc
    rw [← hu]
    exact (k.cell (p := ⟨b, off + i * 3 + j, none⟩) (cell_lt hc)).symm
theorem TabsN.set {w : World} {v : Value} {ts : List Tc} {B : Nat} (h : TabsN w v ts B) {p : Addr} (hp : p.block < B) (u : Value) : TabsN (w.setCell p u) v ts B := by
  obtain ⟨⟨a, cap, xs, rfl, h1, h2, h3, h4, h5⟩, hf1, hf2⟩ := h
  have hne : ∀ q, a = some q → q.block ≠ p.block := fun q hq => by subst hq; have := hf1 _ _ _ rfl; omega
  refine ⟨⟨a, cap, xs, rfl, h1, h2, h3.set hne u, h4, fun i h g => ?_⟩, hf1, fun a' n cap' e i hi j hj x hx => ?_⟩
  · refine (h5 i h g).set (B := B) (fun y hy => ?_) hp u
    rcases h3.2 with h0 | ⟨b, off, e, hr⟩
    · subst h0; simp at h
    · subst e
      obtain ⟨j, hj, rfl⟩ := List.getElem_of_mem hy
      have hs := h3.1 xs[i] (List.getElem_mem h)
      have hj' : j < 3 := by simpa [hs] using hj
      have hc := hr i h j hj'
      rw [Array.getElem?_eq_getElem (by omega)] at hc
      exact hf2 _ _ _ rfl i g j hj' _ (by simpa using hc)
  · cases e
    refine hf2 _ _ _ rfl i hi j hj x ?_
    rw [← hx]
    exact (World.cell?_of_block (w := w) (a := ⟨a'.block, a'.off + i * 3 + j, none⟩) (Below.heap_setCell _ _ _ a'.block (hne a' rfl))).symm
theorem TabsN.mono {w : World} {v : Value} {ts : List Tc} {B B' : Nat} (h : TabsN w v ts B) (hB : B' ≤ B) : TabsN w v ts B' := ⟨h.1, h.2.1.mono hB, fun a n cap e i hi j hj u hu => (h.2.2 a n cap e i hi j hj u hu).mono hB⟩
def fits (ts : List Tc) : Prop := ∀ t ∈ ts, t.fit
def fews (ts : List Tc) : Prop := ts.length ≤ 1048576 ∧ ∀ t ∈ ts, t.few

end Go.Proofs.Ytiijahoheajppaa
