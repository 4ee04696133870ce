/- Rows of several tables in memory: the laws' size, copy and look. -/
import Derived.Test.YtmkgbdgafjeeiahFm
namespace Go.Proofs.Ytmkgbdgafjeeiah
open Go.ChangeShapes Go.WideShapes Go.ChangeAt Go.RowKit

/-- Rows of several tables behind a slice. -/
def DataV (w : World) (v : Value) (ds : List (List (List Vc))) : Prop := ∃ a cap xs, v = .slice a ds.length cap ∧ ds.length ≤ cap ∧ cap ≤ maxLen ∧ RowAt w a 1 (List.map one1 xs) ∧ xs.length = ds.length ∧ ∀ i (h : i < xs.length) (g : i < ds.length), RowsV w xs[i] ds[i]
theorem DataV.on {w w' : World} {v : Value} {ds : List (List (List Vc))} (h : DataV w v ds) (b : Below w.heap.size w w') : DataV w' v ds := by
  obtain ⟨a, cap, xs, e, h1, h2, h3, h4, h5⟩ := h; exact ⟨a, cap, xs, e, h1, h2, h3.on b, h4, fun i h g => (h5 i h g).on b⟩
theorem DataV.lit {w : World} {v : Value} {ds : List (List (List Vc))} (h : DataV w v ds) : ∃ a cap, v = .slice a ds.length cap ∧ ds.length ≤ cap ∧ cap ≤ maxLen ∧ DataV w (.slice a ds.length cap) ds := by
  obtain ⟨a, cap, xs, rfl, h1, h2, h3⟩ := h; exact ⟨a, cap, rfl, h1, h2, a, cap, xs, rfl, h1, h2, h3⟩
theorem DataV.rw {w : World} {a : Option Addr} {n cap : Nat} {ds : List (List (List Vc))} (h : DataV w (.slice a n cap) ds) (k : Nat) (hk : k < ds.length) : ∃ b off c p, a = some ⟨b, off, none⟩ ∧
    w.cell? ⟨b, off + k, none⟩ = some (.slice c ds[k].length p) ∧ RowsV w (.slice c ds[k].length p) ds[k] := by
  obtain ⟨a', cap', xs, e, h1, h2, h3, h4, h5⟩ := h
  cases e
  rcases h3.2 with h0 | ⟨b, off, ha, h⟩
  · rw [List.map_eq_nil_iff] at h0; subst h0; simp at h4; omega
  · obtain ⟨c, p, ex, _, _, hx⟩ := (h5 k (by omega) hk).lit
    have e0 := h k (by simp; omega) 0 (by omega)
    simp only [List.getElem_map, Nat.mul_one, Nat.add_zero] at e0
    rw [ex] at e0
    exact ⟨b, off, c, p, ha, e0, hx⟩
/-- Copied so far. -/
def Dfill (w : World) (B : Nat) (T : TypeId) (ds : List (List (List Vc))) (k : Nat) : Prop := ∃ ys, Fill w B T 1 ds.length (List.map one1 ys) ∧ ys.length = k ∧ ∀ i (h : i < ys.length) (g : i < ds.length), Firm (B + 1) (fun u => RowsV u ys[i] ds[i]) w
theorem Dfill.on {w w' : World} {B : Nat} {T : TypeId} {ds : List (List (List Vc))} {k : Nat} (h : Dfill w B T ds k) (b : Below w.heap.size w w') : Dfill w' B T ds k := by
  obtain ⟨ys, h1, h2, h3⟩ := h
  exact ⟨ys, h1.on b, h2, fun i h g => (h3 i h g).on b⟩
theorem Dfill.put {w : World} {B : Nat} {T : TypeId} {ds : List (List (List Vc))} {k : Nat} (h : Dfill w B T ds k) (hk : k < ds.length) {y : Value} (hy : Firm (B + 1) (fun u => RowsV u y ds[k]) w) : Dfill (stores w B k [y]) B T ds (k + 1) := by
  obtain ⟨ys, h1, rfl, h3⟩ := h
  refine ⟨ys ++ [y], ?_, by simp, fun i h g => ?_⟩
  · have := h1.put (by simpa using hk) [y] rfl
    simpa using this
  · by_cases hi : i < ys.length
    · rw [List.getElem_append_left hi]
      exact Firm.stores (by omega) _ _ _ (h3 i hi g)
    · simp at h
      have : i = ys.length := by omega
      subst this
      simp only [List.getElem_append_right (Nat.le_refl _), Nat.sub_self, List.getElem_cons_zero]
      exact Firm.stores (by omega) _ _ _ hy
theorem Dfill.firm {w : World} {B : Nat} {T : TypeId} {ds : List (List (List Vc))} (h : Dfill w B T ds ds.length) (hm : ds.length ≤ maxLen) : Firm B (fun u => DataV u (.slice (some ⟨B, 0, none⟩) ds.length ds.length) ds) w := by
  obtain ⟨ys, h1, h2, h3⟩ := h
  intro u hu
  exact ⟨_, _, ys, rfl, Nat.le_refl _, hm, (h1.firm (Nat.le_refl _) u hu).row, h2, fun i h g => (h3 i h g) u (hu.mono (by omega))⟩
def dfits (ds : List (List (List Vc))) : Prop := ∀ r ∈ ds, rfits r
def dfews (ds : List (List (List Vc))) : Prop := ds.length ≤ 1048576 ∧ ∀ r ∈ ds, rfews r

end Go.Proofs.Ytmkgbdgafjeeiah
