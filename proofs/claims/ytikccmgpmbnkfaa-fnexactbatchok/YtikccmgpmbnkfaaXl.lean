/- The laws' copies with their shape: records, lists of records. The laws' copies with their shape: lists of records. -/
import Derived.Test.YtikccmgpmbnkfaaXs
import Derived.Test.YtikccmgpmbnkfaaRl
namespace Go.Proofs.Ytikccmgpmbnkfaa
open Go.ChangeShapes Go.WideShapes Go.ChangeAt Go.RowKit

theorem StmtN.mono {B B' : Nat} {w : World} {x : Array Value} {s : Sc} (h : StmtN B w x s) (hB : B' ≤ B) : StmtN B' w x s := by
  obtain ⟨k, r, c, o, e, h1, h2, h3, h4⟩ := h
  exact ⟨k, r, c, o, e, ⟨h1.1, h1.2.mono ValsS.good hB⟩, ⟨h2.1, h2.2.mono ValsS.good hB⟩, ⟨h3.1, h3.2.mono ColsS.good hB⟩, ⟨h4.1, h4.2.mono StrsS.good hB⟩⟩
theorem StmtN.lit {B : Nat} {w : World} {x : Array Value} {t : Sc} (h : StmtN B w x t) : ∃ a p b q c r d u, x = t.cells (.slice a t.key.length p) (.slice b t.row.length q) (.slice c t.ddl.cols.length r) (.slice d t.ddl.keys.length u) ∧ True := by
  obtain ⟨a, p, b, q, c, r, d, u, e, _⟩ := h.stmt.lit
  exact ⟨a, p, b, q, c, r, d, u, e, trivial⟩
def RecN (B : Nat) (w : World) (x : Array Value) (t : Lc) : Prop := ∃ k r c o, x = t.cells k r c o ∧ ValsN B w k t.st.key ∧ ValsN B w r t.st.row ∧ ColsN B w c t.st.ddl.cols ∧ StrsN B w o t.st.ddl.keys
theorem RecN.rec {B : Nat} {w : World} {x : Array Value} {s : Lc} (h : RecN B w x s) : RecV w x s := by
  obtain ⟨k, r, c, o, e, h1, h2, h3, h4⟩ := h; exact ⟨k, r, c, o, e, h1.1, h2.1, h3.1, h4.1⟩
theorem RecN.of {B : Nat} {w : World} {t : Lc} {k r c o : Value} (h : StmtN B w #[.int .i64 t.st.kind, .string t.st.table, k, r, .int .i64 t.st.ddl.kind, .string t.st.ddl.table, c, o, .string t.st.ddl.name, .string t.st.ddl.to] t.st) : RecN B w #[.int .i64 t.kind, .int .i64 t.xid, .int .i64 t.st.kind, .string t.st.table, k, r, .int .i64 t.st.ddl.kind, .string t.st.ddl.table, c, o, .string t.st.ddl.name, .string t.st.ddl.to] t := by
  obtain ⟨k', r', c', o', e, h1, h2, h3, h4⟩ := h
  simp at e
  obtain ⟨rfl, rfl, rfl, rfl⟩ := e
  exact ⟨_, _, _, _, rfl, h1, h2, h3, h4⟩

end Go.Proofs.Ytikccmgpmbnkfaa

namespace Go.Proofs.Ytikccmgpmbnkfaa
open Go.ChangeShapes Go.WideShapes Go.ChangeAt Go.RowKit

/-- Copied so far, with the shape. -/
def LfillN (w : World) (B : Nat) (T : TypeId) (ts : List Lc) (k : Nat) : Prop := ∃ ys, Fill w B T 12 ts.length ys ∧ ys.length = k ∧ ∀ i (h : i < ys.length) (g : i < ts.length), Firm (B + 1) (fun u => RecN (B + 1) u ys[i] ts[i]) w
theorem RecN.size {B : Nat} {w : World} {x : Array Value} {t : Lc} (h : RecN B w x t) : x.size = 12 := h.rec.size
theorem RecN.lit {B : Nat} {w : World} {x : Array Value} {t : Lc} (h : RecN B w x t) : ∃ ka kp ra rp ca cp oa op, x = #[.int .i64 t.kind, .int .i64 t.xid, .int .i64 t.st.kind, .string t.st.table, .slice ka t.st.key.length kp, .slice ra t.st.row.length rp, .int .i64 t.st.ddl.kind, .string t.st.ddl.table, .slice ca t.st.ddl.cols.length cp, .slice oa t.st.ddl.keys.length op, .string t.st.ddl.name, .string t.st.ddl.to] ∧ True ∧ True := by
  obtain ⟨ka, kp, ra, rp, ca, cp, oa, op, e, _⟩ := h.rec.lit
  exact ⟨ka, kp, ra, rp, ca, cp, oa, op, e, trivial, trivial⟩
theorem RecN.mono {B B' : Nat} {w : World} {x : Array Value} {t : Lc} (h : RecN B w x t) (hB : B' ≤ B) : RecN B' w x t := by
  obtain ⟨k, r, c, o, e, h1, h2, h3, h4⟩ := h
  exact ⟨k, r, c, o, e, ⟨h1.1, h1.2.mono ValsS.good hB⟩, ⟨h2.1, h2.2.mono ValsS.good hB⟩, ⟨h3.1, h3.2.mono ColsS.good hB⟩, ⟨h4.1, h4.2.mono StrsS.good hB⟩⟩
theorem LfillN.on {w w' : World} {B : Nat} {T : TypeId} {ts : List Lc} {k : Nat} (h : LfillN w B T ts k) (b : Below w.heap.size w w') : LfillN w' B T ts k := by
  obtain ⟨ys, h1, h2, h3⟩ := h
  exact ⟨ys, h1.on b, h2, fun i h g => (h3 i h g).on b⟩
theorem LfillN.put {w : World} {B : Nat} {T : TypeId} {ts : List Lc} {k : Nat} (h : LfillN w B T ts k) (hk : k < ts.length) {y : Array Value} (hy : Firm (B + 1) (fun u => RecN (B + 1) u y ts[k]) w) : LfillN (stores w B (k * 12) y.toList) B T ts (k + 1) := by
  obtain ⟨ys, h1, rfl, h3⟩ := h
  refine ⟨ys ++ [y], ?_, by simp, fun i h g => ?_⟩
  · have := h1.put hk y.toList (by simpa using hy.out.size)
    simpa using this
  · by_cases hi : i < ys.length
    · rw [List.getElem_append_left hi]
      exact Firm.stores (by omega) _ _ _ (h3 i hi g)
    · simp at h
      have : i = ys.length := by omega
      subst this
      simp only [List.getElem_append_right (Nat.le_refl _), Nat.sub_self, List.getElem_cons_zero]
      exact Firm.stores (by omega) _ _ _ hy
end Go.Proofs.Ytikccmgpmbnkfaa
