/- Lists of records in memory: the laws' size, copy and look. -/
import Derived.Test.YtikccmgpmbnkfaaRd
namespace Go.Proofs.Ytikccmgpmbnkfaa
open Go.ChangeShapes Go.WideShapes Go.ChangeAt Go.RowKit

/-- Records behind a slice. -/
def RecsV (w : World) (v : Value) (ts : List Lc) : Prop := ∃ a cap xs, v = .slice a ts.length cap ∧ ts.length ≤ cap ∧ cap ≤ maxLen ∧ RowAt w a 12 xs ∧ xs.length = ts.length ∧ ∀ i (h : i < xs.length) (g : i < ts.length), RecV w xs[i] ts[i]
theorem RecsV.on {w w' : World} {v : Value} {ts : List Lc} (h : RecsV w v ts) (b : Below w.heap.size w w') : RecsV w' v ts := by
  obtain ⟨a, cap, xs, e, h1, h2, h3, h4, h5⟩ := h; exact ⟨a, cap, xs, e, h1, h2, h3.on b, h4, fun i h g => (h5 i h g).on b⟩
theorem RecsV.lit {w : World} {v : Value} {ts : List Lc} (h : RecsV w v ts) : ∃ a cap, v = .slice a ts.length cap ∧ ts.length ≤ cap ∧ cap ≤ maxLen ∧ RecsV w (.slice a ts.length cap) ts := by
  obtain ⟨a, cap, xs, rfl, h1, h2, h3⟩ := h; exact ⟨a, cap, rfl, h1, h2, a, cap, xs, rfl, h1, h2, h3⟩
theorem RecsV.rec {w : World} {a : Option Addr} {n cap : Nat} {ts : List Lc} (h : RecsV w (.slice a n cap) ts) (k : Nat) (hk : k < ts.length) : ∃ b off ka kp ra rp ca cp oa op, a = some ⟨b, off, none⟩ ∧ RecV w #[.int .i64 ts[k].kind, .int .i64 ts[k].xid, .int .i64 ts[k].st.kind, .string ts[k].st.table, .slice ka ts[k].st.key.length kp, .slice ra ts[k].st.row.length rp, .int .i64 ts[k].st.ddl.kind, .string ts[k].st.ddl.table, .slice ca ts[k].st.ddl.cols.length cp, .slice oa ts[k].st.ddl.keys.length op, .string ts[k].st.ddl.name, .string ts[k].st.ddl.to] ts[k] ∧
    w.cell? ⟨b, off + k * 12, none⟩ = some (.int .i64 ts[k].kind) ∧ w.cell? ⟨b, off + k * 12 + 1, none⟩ = some (.int .i64 ts[k].xid) ∧ w.cell? ⟨b, off + k * 12 + 2, none⟩ = some (.int .i64 ts[k].st.kind) ∧ w.cell? ⟨b, off + k * 12 + 3, none⟩ = some (.string ts[k].st.table) ∧ w.cell? ⟨b, off + k * 12 + 4, none⟩ = some (.slice ka ts[k].st.key.length kp) ∧ w.cell? ⟨b, off + k * 12 + 5, none⟩ = some (.slice ra ts[k].st.row.length rp) ∧ w.cell? ⟨b, off + k * 12 + 6, none⟩ = some (.int .i64 ts[k].st.ddl.kind) ∧ w.cell? ⟨b, off + k * 12 + 7, none⟩ = some (.string ts[k].st.ddl.table) ∧ w.cell? ⟨b, off + k * 12 + 8, none⟩ = some (.slice ca ts[k].st.ddl.cols.length cp) ∧ w.cell? ⟨b, off + k * 12 + 9, none⟩ = some (.slice oa ts[k].st.ddl.keys.length op) ∧ w.cell? ⟨b, off + k * 12 + 10, none⟩ = some (.string ts[k].st.ddl.name) ∧ w.cell? ⟨b, off + k * 12 + 11, none⟩ = some (.string ts[k].st.ddl.to) := by
  obtain ⟨a', cap', xs, e, h1, h2, h3, h4, h5⟩ := h
  cases e
  rcases h3.2 with h0 | ⟨b, off, ha, h⟩
  · subst h0; simp at h4; omega
  · obtain ⟨ka, kp, ra, rp, ca, cp, oa, op, ex, hx, _⟩ := (h5 k (by omega) hk).lit
    have e0 := h k (by omega) 0 (by omega)
    have e1 := h k (by omega) 1 (by omega)
    have e2 := h k (by omega) 2 (by omega)
    have e3 := h k (by omega) 3 (by omega)
    have e4 := h k (by omega) 4 (by omega)
    have e5 := h k (by omega) 5 (by omega)
    have e6 := h k (by omega) 6 (by omega)
    have e7 := h k (by omega) 7 (by omega)
    have e8 := h k (by omega) 8 (by omega)
    have e9 := h k (by omega) 9 (by omega)
    have e10 := h k (by omega) 10 (by omega)
    have e11 := h k (by omega) 11 (by omega)
    rw [ex] at e0 e1 e2 e3 e4 e5 e6 e7 e8 e9 e10 e11
    exact ⟨b, off, ka, kp, ra, rp, ca, cp, oa, op, ha, hx, e0, e1, e2, e3, e4, e5, e6, e7, e8, e9, e10, e11⟩
theorem Fill.twelve {w : World} {B : Nat} {T : TypeId} {n k : Nat} {xs : List (Array Value)} (h : Fill w B T 12 n xs) (hx : xs.length = k) (hk : k < n) : ∃ v0 v1 v2 v3 v4 v5 v6 v7 v8 v9 v10 v11 : Value, (w.cell? ⟨B, k * 12, none⟩ = some v0 ∧ w.cell? ⟨B, k * 12 + 1, none⟩ = some v1 ∧ w.cell? ⟨B, k * 12 + 2, none⟩ = some v2 ∧ w.cell? ⟨B, k * 12 + 3, none⟩ = some v3 ∧ w.cell? ⟨B, k * 12 + 4, none⟩ = some v4 ∧ w.cell? ⟨B, k * 12 + 5, none⟩ = some v5 ∧ w.cell? ⟨B, k * 12 + 6, none⟩ = some v6 ∧ w.cell? ⟨B, k * 12 + 7, none⟩ = some v7 ∧ w.cell? ⟨B, k * 12 + 8, none⟩ = some v8 ∧ w.cell? ⟨B, k * 12 + 9, none⟩ = some v9 ∧ w.cell? ⟨B, k * 12 + 10, none⟩ = some v10 ∧ w.cell? ⟨B, k * 12 + 11, none⟩ = some v11) ∧ w.frozen? ⟨B, k * 12, none⟩ = false ∧ w.frozen? ⟨B, k * 12 + 1, none⟩ = false ∧ w.frozen? ⟨B, k * 12 + 2, none⟩ = false ∧ w.frozen? ⟨B, k * 12 + 3, none⟩ = false ∧ w.frozen? ⟨B, k * 12 + 4, none⟩ = false ∧ w.frozen? ⟨B, k * 12 + 5, none⟩ = false ∧ w.frozen? ⟨B, k * 12 + 6, none⟩ = false ∧ w.frozen? ⟨B, k * 12 + 7, none⟩ = false ∧ w.frozen? ⟨B, k * 12 + 8, none⟩ = false ∧ w.frozen? ⟨B, k * 12 + 9, none⟩ = false ∧ w.frozen? ⟨B, k * 12 + 10, none⟩ = false ∧ w.frozen? ⟨B, k * 12 + 11, none⟩ = false := by
  subst hx
  obtain ⟨⟨v0, c0⟩, f0⟩ := h.cell 0 (by omega) hk
  obtain ⟨⟨v1, c1⟩, f1⟩ := h.cell 1 (by omega) hk
  obtain ⟨⟨v2, c2⟩, f2⟩ := h.cell 2 (by omega) hk
  obtain ⟨⟨v3, c3⟩, f3⟩ := h.cell 3 (by omega) hk
  obtain ⟨⟨v4, c4⟩, f4⟩ := h.cell 4 (by omega) hk
  obtain ⟨⟨v5, c5⟩, f5⟩ := h.cell 5 (by omega) hk
  obtain ⟨⟨v6, c6⟩, f6⟩ := h.cell 6 (by omega) hk
  obtain ⟨⟨v7, c7⟩, f7⟩ := h.cell 7 (by omega) hk
  obtain ⟨⟨v8, c8⟩, f8⟩ := h.cell 8 (by omega) hk
  obtain ⟨⟨v9, c9⟩, f9⟩ := h.cell 9 (by omega) hk
  obtain ⟨⟨v10, c10⟩, f10⟩ := h.cell 10 (by omega) hk
  obtain ⟨⟨v11, c11⟩, f11⟩ := h.cell 11 (by omega) hk
  exact ⟨v0, v1, v2, v3, v4, v5, v6, v7, v8, v9, v10, v11, ⟨c0, c1, c2, c3, c4, c5, c6, c7, c8, c9, c10, c11⟩, f0, f1, f2, f3, f4, f5, f6, f7, f8, f9, f10, f11⟩
/-- Copied so far. -/
def Lfill (w : World) (B : Nat) (T : TypeId) (ts : List Lc) (k : Nat) : Prop := ∃ ys, Fill w B T 12 ts.length ys ∧ ys.length = k ∧ ∀ i (h : i < ys.length) (g : i < ts.length), Firm (B + 1) (fun u => RecV u ys[i] ts[i]) w
theorem Lfill.on {w w' : World} {B : Nat} {T : TypeId} {ts : List Lc} {k : Nat} (h : Lfill w B T ts k) (b : Below w.heap.size w w') : Lfill w' B T ts k := by
  obtain ⟨ys, h1, h2, h3⟩ := h
  exact ⟨ys, h1.on b, h2, fun i h g => (h3 i h g).on b⟩
theorem Lfill.put {w : World} {B : Nat} {T : TypeId} {ts : List Lc} {k : Nat} (h : Lfill w B T ts k) (hk : k < ts.length) {y : Array Value} (hy : Firm (B + 1) (fun u => RecV u y ts[k]) w) : Lfill (stores w B (k * 12) y.toList) B T ts (k + 1) := by
  obtain ⟨ys, h1, rfl, h3⟩ := h
  refine ⟨ys ++ [y], ?_, by simp, fun i h g => ?_⟩
  · have := h1.put hk y.toList (by simpa using hy.out.size)
    simpa using this
  · by_cases hi : i < ys.length
    · rw [List.getElem_append_left hi]
      exact Firm.stores (by omega) _ _ _ (h3 i hi g)
    · simp at h
      have : i = ys.length := by omega
      subst this
      simp only [List.getElem_append_right (Nat.le_refl _), Nat.sub_self, List.getElem_cons_zero]
      exact Firm.stores (by omega) _ _ _ hy
theorem Lfill.firm {w : World} {B : Nat} {T : TypeId} {ts : List Lc} (h : Lfill w B T ts ts.length) (hm : ts.length ≤ maxLen) : Firm B (fun u => RecsV u (.slice (some ⟨B, 0, none⟩) ts.length ts.length) ts) w := by
  obtain ⟨ys, h1, h2, h3⟩ := h
  intro u hu
  exact ⟨_, _, ys, rfl, Nat.le_refl _, hm, (h1.firm (Nat.le_refl _) u hu).row, h2, fun i h g => (h3 i h g) u (hu.mono (by omega))⟩
def lfits (ts : List Lc) : Prop := ∀ t ∈ ts, t.fit
def lfews (ts : List Lc) : Prop := ts.length ≤ 1048576 ∧ ∀ t ∈ ts, t.few

end Go.Proofs.Ytikccmgpmbnkfaa
