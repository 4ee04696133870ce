/- Records of a log in memory: the laws' size, copy and look. Records copied, opened, and lists of them. -/
import Derived.Test.YtikccmgpmbnkfaaSt
namespace Go.Proofs.Ytikccmgpmbnkfaa
open Go.ChangeShapes Go.WideShapes Go.ChangeAt Go.RowKit

/-- What a record holds. -/
structure Lc where
  kind : Int
  xid : Int
  st : Sc
abbrev Lc.cells (t : Lc) (k r c o : Value) : Array Value := #[.int .i64 t.kind, .int .i64 t.xid, .int .i64 t.st.kind, .string t.st.table, k, r, .int .i64 t.st.ddl.kind, .string t.st.ddl.table, c, o, .string t.st.ddl.name, .string t.st.ddl.to]
def RecV (w : World) (x : Array Value) (t : Lc) : Prop := ∃ k r c o, x = t.cells k r c o ∧ ValsV w k t.st.key ∧ ValsV w r t.st.row ∧ ColsV w c t.st.ddl.cols ∧ StrsV w o t.st.ddl.keys
theorem RecV.on {w w' : World} {x : Array Value} {t : Lc} (h : RecV w x t) (b : Below w.heap.size w w') : RecV w' x t := by
  obtain ⟨k, r, c, o, e, h1, h2, h3, h4⟩ := h; exact ⟨k, r, c, o, e, h1.on b, h2.on b, h3.on b, h4.on b⟩
theorem RecV.lit {w : World} {x : Array Value} {t : Lc} (h : RecV w x t) : ∃ ka kp ra rp ca cp oa op, x = #[.int .i64 t.kind, .int .i64 t.xid, .int .i64 t.st.kind, .string t.st.table, .slice ka t.st.key.length kp, .slice ra t.st.row.length rp, .int .i64 t.st.ddl.kind, .string t.st.ddl.table, .slice ca t.st.ddl.cols.length cp, .slice oa t.st.ddl.keys.length op, .string t.st.ddl.name, .string t.st.ddl.to] ∧ RecV w #[.int .i64 t.kind, .int .i64 t.xid, .int .i64 t.st.kind, .string t.st.table, .slice ka t.st.key.length kp, .slice ra t.st.row.length rp, .int .i64 t.st.ddl.kind, .string t.st.ddl.table, .slice ca t.st.ddl.cols.length cp, .slice oa t.st.ddl.keys.length op, .string t.st.ddl.name, .string t.st.ddl.to] t ∧ StmtV w #[.int .i64 t.st.kind, .string t.st.table, .slice ka t.st.key.length kp, .slice ra t.st.row.length rp, .int .i64 t.st.ddl.kind, .string t.st.ddl.table, .slice ca t.st.ddl.cols.length cp, .slice oa t.st.ddl.keys.length op, .string t.st.ddl.name, .string t.st.ddl.to] t.st := by
  obtain ⟨k, r, c, o, rfl, h1, h2, h3, h4⟩ := h
  obtain ⟨a, p, rfl, _⟩ := h1.lit
  obtain ⟨b, q, rfl, _⟩ := h2.lit
  obtain ⟨c, r, rfl, h3'⟩ := id h3
  obtain ⟨d, t, rfl, h4'⟩ := id h4
  exact ⟨a, p, b, q, c, r, d, t, rfl, ⟨_, _, _, _, rfl, h1, h2, h3, h4⟩, ⟨_, _, _, _, rfl, h1, h2, h3, h4⟩⟩
theorem RecV.size {w : World} {x : Array Value} {t : Lc} (h : RecV w x t) : x.size = 12 := by
  obtain ⟨k, r, c, o, rfl, _⟩ := h; rfl
theorem RecV.of {w : World} {t : Lc} {k r c o : Value} (h : StmtV w #[.int .i64 t.st.kind, .string t.st.table, k, r, .int .i64 t.st.ddl.kind, .string t.st.ddl.table, c, o, .string t.st.ddl.name, .string t.st.ddl.to] t.st) : RecV w #[.int .i64 t.kind, .int .i64 t.xid, .int .i64 t.st.kind, .string t.st.table, k, r, .int .i64 t.st.ddl.kind, .string t.st.ddl.table, c, o, .string t.st.ddl.name, .string t.st.ddl.to] t := by
  obtain ⟨k', r', c', o', e, h1, h2, h3, h4⟩ := h
  simp at e
  obtain ⟨rfl, rfl, rfl, rfl⟩ := e
  exact ⟨_, _, _, _, rfl, h1, h2, h3, h4⟩
def Lc.fit (t : Lc) : Prop := t.st.fit
def Lc.few (t : Lc) : Prop := t.st.few
theorem Loc.twelve {w : World} {b : Nat} {a0 a1 a2 a3 a4 a5 a6 a7 a8 a9 a10 a11 : Value} (h : Loc w b #[a0, a1, a2, a3, a4, a5, a6, a7, a8, a9, a10, a11]) : w.cell? ⟨b, 0, none⟩ = some a0 ∧ w.cell? ⟨b, 1, none⟩ = some a1 ∧ w.cell? ⟨b, 2, none⟩ = some a2 ∧ w.cell? ⟨b, 3, none⟩ = some a3 ∧ w.cell? ⟨b, 4, none⟩ = some a4 ∧ w.cell? ⟨b, 5, none⟩ = some a5 ∧ w.cell? ⟨b, 6, none⟩ = some a6 ∧ w.cell? ⟨b, 7, none⟩ = some a7 ∧ w.cell? ⟨b, 8, none⟩ = some a8 ∧ w.cell? ⟨b, 9, none⟩ = some a9 ∧ w.cell? ⟨b, 10, none⟩ = some a10 ∧ w.cell? ⟨b, 11, none⟩ = some a11 :=
  ⟨h 0 (by simp), h 1 (by simp), h 2 (by simp), h 3 (by simp), h 4 (by simp), h 5 (by simp), h 6 (by simp), h 7 (by simp), h 8 (by simp), h 9 (by simp), h 10 (by simp), h 11 (by simp)⟩

end Go.Proofs.Ytikccmgpmbnkfaa

namespace Go.Proofs.Ytikccmgpmbnkfaa
open Go.ChangeShapes Go.WideShapes Go.ChangeAt Go.RowKit

end Go.Proofs.Ytikccmgpmbnkfaa
