/- Lists of rows in memory: the laws' size, copy and look. -/
import Derived.Test.YtiijahoheajppaaRw
namespace Go.Proofs.Ytiijahoheajppaa
open Go.ChangeShapes Go.WideShapes Go.ChangeAt Go.RowKit

abbrev one1 (v : Value) : Array Value := #[v]
/-- Rows behind a slice. -/
def RowsV (w : World) (v : Value) (rs : List (List Vc)) : Prop := ∃ a cap xs, v = .slice a rs.length cap ∧ rs.length ≤ cap ∧ cap ≤ maxLen ∧ RowAt w a 1 (List.map one1 xs) ∧ xs.length = rs.length ∧ ∀ i (h : i < xs.length) (g : i < rs.length), ValsV w xs[i] rs[i]
theorem RowsV.on {w w' : World} {v : Value} {rs : List (List Vc)} (h : RowsV w v rs) (b : Below w.heap.size w w') : RowsV w' v rs := by
  obtain ⟨a, cap, xs, e, h1, h2, h3, h4, h5⟩ := h; exact ⟨a, cap, xs, e, h1, h2, h3.on b, h4, fun i h g => (h5 i h g).on b⟩
theorem RowsV.lit {w : World} {v : Value} {rs : List (List Vc)} (h : RowsV w v rs) : ∃ a cap, v = .slice a rs.length cap ∧ rs.length ≤ cap ∧ cap ≤ maxLen ∧ RowsV w (.slice a rs.length cap) rs := by
  obtain ⟨a, cap, xs, rfl, h1, h2, h3⟩ := h; exact ⟨a, cap, rfl, h1, h2, a, cap, xs, rfl, h1, h2, h3⟩
theorem RowsV.rw {w : World} {a : Option Addr} {n cap : Nat} {rs : List (List Vc)} (h : RowsV w (.slice a n cap) rs) (k : Nat) (hk : k < rs.length) : ∃ b off c p, a = some ⟨b, off, none⟩ ∧
    w.cell? ⟨b, off + k, none⟩ = some (.slice c rs[k].length p) ∧ ValsV w (.slice c rs[k].length p) rs[k] := by
  obtain ⟨a', cap', xs, e, h1, h2, h3, h4, h5⟩ := h
  cases e
  rcases h3.2 with h0 | ⟨b, off, ha, h⟩
  · rw [List.map_eq_nil_iff] at h0; subst h0; simp at h4; omega
  · obtain ⟨c, p, ex, _, _, hx⟩ := (h5 k (by omega) hk).lit
    have e0 := h k (by simp; omega) 0 (by omega)
    simp only [List.getElem_map, Nat.mul_one, Nat.add_zero] at e0
    rw [ex] at e0
    exact ⟨b, off, c, p, ha, e0, hx⟩
theorem ValsV.stores {v : Value} {vs : List Vc} {B b : Nat} (hf : From v B) (hb : b < B) : ∀ (us : List Value) (w : World) (o : Nat), ValsV w v vs → ValsV (stores w b o us) v vs
  | [], _, _, h => h
  | u :: r, _, o, h => ValsV.stores hf hb r _ (o + 1) (h.set hf hb u)
/-- Rows copied so far. -/
def Rfill (w : World) (B : Nat) (T : TypeId) (rs : List (List Vc)) (k : Nat) : Prop := ∃ ys, Fill w B T 1 rs.length (List.map one1 ys) ∧ ys.length = k ∧ ∀ i (h : i < ys.length) (g : i < rs.length), ValsV w ys[i] rs[i] ∧ From ys[i] (B + 1)
theorem Rfill.on {w w' : World} {B : Nat} {T : TypeId} {rs : List (List Vc)} {k : Nat} (h : Rfill w B T rs k) (b : Below w.heap.size w w') : Rfill w' B T rs k := by
  obtain ⟨ys, h1, h2, h3⟩ := h
  exact ⟨ys, h1.on b, h2, fun i h g => ⟨(h3 i h g).1.on b, (h3 i h g).2⟩⟩
theorem Rfill.put {w : World} {B : Nat} {T : TypeId} {rs : List (List Vc)} {k : Nat} (h : Rfill w B T rs k) (hk : k < rs.length) {y : Value} (hy : ValsV w y rs[k]) (hf : From y (B + 1)) : Rfill (stores w B k [y]) B T rs (k + 1) := by
  obtain ⟨ys, h1, rfl, h3⟩ := h
  refine ⟨ys ++ [y], ?_, by simp, fun i h g => ?_⟩
  · have := h1.put (by simpa using hk) [y] rfl
    simpa using this
  · by_cases hi : i < ys.length
    · rw [List.getElem_append_left hi]
      exact ⟨ValsV.stores (h3 i hi g).2 (by omega) _ _ _ (h3 i hi g).1, (h3 i hi g).2⟩
    · simp at h
      have : i = ys.length := by omega
      subst this
      simp only [List.getElem_append_right (Nat.le_refl _), Nat.sub_self, List.getElem_cons_zero]
      exact ⟨ValsV.stores hf (by omega) _ _ _ hy, hf⟩
theorem Rfill.done {w : World} {B : Nat} {T : TypeId} {rs : List (List Vc)} (h : Rfill w B T rs rs.length) (hm : rs.length ≤ maxLen) : RowsV w (.slice (some ⟨B, 0, none⟩) rs.length rs.length) rs := by
  obtain ⟨ys, h1, h2, h3⟩ := h
  exact ⟨_, _, ys, rfl, Nat.le_refl _, hm, h1.row, h2, fun i h g => (h3 i h g).1⟩
def rfits (rs : List (List Vc)) : Prop := ∀ r ∈ rs, vfit r
def rfews (rs : List (List Vc)) : Prop := rs.length ≤ 1048576 ∧ ∀ r ∈ rs, r.length ≤ 1048576

end Go.Proofs.Ytiijahoheajppaa
