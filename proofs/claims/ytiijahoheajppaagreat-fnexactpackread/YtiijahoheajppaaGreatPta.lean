/- Records of a log in memory: the laws' size, copy and look. Records copied, opened, and lists of them. Lists of records in memory: the laws' size, copy and look. The laws' copies with their shape: records, lists of records. The laws' copies with their shape: lists of records. Parts of batches in memory: the laws' size and look, one and lists. -/
import Derived.Test.YtiijahoheajppaaGreatSt
import Derived.Test.YtiijahoheajppaaGreatXs
namespace Go.Proofs.YtiijahoheajppaaGreat
open Go.ChangeShapes Go.WideShapes Go.ChangeAt Go.RowKit

/-- What a record holds. -/
structure Lc where
  kind : Int
  xid : Int
  st : Sc
abbrev Lc.cells (t : Lc) (k r c o : Value) : Array Value := #[.int .i64 t.kind, .int .i64 t.xid, .int .i64 t.st.kind, .string t.st.table, k, r, .int .i64 t.st.ddl.kind, .string t.st.ddl.table, c, o, .string t.st.ddl.name, .string t.st.ddl.to]
def RecV (w : World) (x : Array Value) (t : Lc) : Prop := ∃ k r c o, x = t.cells k r c o ∧ ValsV w k t.st.key ∧ ValsV w r t.st.row ∧ ColsV w c t.st.ddl.cols ∧ StrsV w o t.st.ddl.keys
theorem RecV.on {w w' : World} {x : Array Value} {t : Lc} (h : RecV w x t) (b : Below w.heap.size w w') : RecV w' x t := by
  obtain ⟨k, r, c, o, e, h1, h2, h3, h4⟩ := h; exact ⟨k, r, c, o, e, h1.on b, h2.on b, h3.on b, h4.on b⟩
theorem RecV.lit {w : World} {x : Array Value} {t : Lc} (h : RecV w x t) : ∃ ka kp ra rp ca cp oa op, x = #[.int .i64 t.kind, .int .i64 t.xid, .int .i64 t.st.kind, .string t.st.table, .slice ka t.st.key.length kp, .slice ra t.st.row.length rp, .int .i64 t.st.ddl.kind, .string t.st.ddl.table, .slice ca t.st.ddl.cols.length cp, .slice oa t.st.ddl.keys.length op, .string t.st.ddl.name, .string t.st.ddl.to] ∧ RecV w #[.int .i64 t.kind, .int .i64 t.xid, .int .i64 t.st.kind, .string t.st.table, .slice ka t.st.key.length kp, .slice ra t.st.row.length rp, .int .i64 t.st.ddl.kind, .string t.st.ddl.table, .slice ca t.st.ddl.cols.length cp, .slice oa t.st.ddl.keys.length op, .string t.st.ddl.name, .string t.st.ddl.to] t ∧ StmtV w #[.int .i64 t.st.kind, .string t.st.table, .slice ka t.st.key.length kp, .slice ra t.st.row.length rp, .int .i64 t.st.ddl.kind, .string t.st.ddl.table, .slice ca t.st.ddl.cols.length cp, .slice oa t.st.ddl.keys.length op, .string t.st.ddl.name, .string t.st.ddl.to] t.st := by
  obtain ⟨k, r, c, o, rfl, h1, h2, h3, h4⟩ := h
  obtain ⟨a, p, rfl, _⟩ := h1.lit
  obtain ⟨b, q, rfl, _⟩ := h2.lit
  obtain ⟨c, r, rfl, h3'⟩ := id h3
  obtain ⟨d, t, rfl, h4'⟩ := id h4
  exact ⟨a, p, b, q, c, r, d, t, rfl, ⟨_, _, _, _, rfl, h1, h2, h3, h4⟩, ⟨_, _, _, _, rfl, h1, h2, h3, h4⟩⟩
theorem RecV.size {w : World} {x : Array Value} {t : Lc} (h : RecV w x t) : x.size = 12 := by
  obtain ⟨k, r, c, o, rfl, _⟩ := h; rfl
theorem RecV.of {w : World} {t : Lc} {k r c o : Value} (h : StmtV w #[.int .i64 t.st.kind, .string t.st.table, k, r, .int .i64 t.st.ddl.kind, .string t.st.ddl.table, c, o, .string t.st.ddl.name, .string t.st.ddl.to] t.st) : RecV w #[.int .i64 t.kind, .int .i64 t.xid, .int .i64 t.st.kind, .string t.st.table, k, r, .int .i64 t.st.ddl.kind, .string t.st.ddl.table, c, o, .string t.st.ddl.name, .string t.st.ddl.to] t := by
  obtain ⟨k', r', c', o', e, h1, h2, h3, h4⟩ := h
  simp at e
  obtain ⟨rfl, rfl, rfl, rfl⟩ := e
  exact ⟨_, _, _, _, rfl, h1, h2, h3, h4⟩
def Lc.fit (t : Lc) : Prop := t.st.fit
def Lc.few (t : Lc) : Prop := t.st.few
theorem Loc.twelve {w : World} {b : Nat} {a0 a1 a2 a3 a4 a5 a6 a7 a8 a9 a10 a11 : Value} (h : Loc w b #[a0, a1, a2, a3, a4, a5, a6, a7, a8, a9, a10, a11]) : w.cell? ⟨b, 0, none⟩ = some a0 ∧ w.cell? ⟨b, 1, none⟩ = some a1 ∧ w.cell? ⟨b, 2, none⟩ = some a2 ∧ w.cell? ⟨b, 3, none⟩ = some a3 ∧ w.cell? ⟨b, 4, none⟩ = some a4 ∧ w.cell? ⟨b, 5, none⟩ = some a5 ∧ w.cell? ⟨b, 6, none⟩ = some a6 ∧ w.cell? ⟨b, 7, none⟩ = some a7 ∧ w.cell? ⟨b, 8, none⟩ = some a8 ∧ w.cell? ⟨b, 9, none⟩ = some a9 ∧ w.cell? ⟨b, 10, none⟩ = some a10 ∧ w.cell? ⟨b, 11, none⟩ = some a11 :=
  ⟨h 0 (by simp), h 1 (by simp), h 2 (by simp), h 3 (by simp), h 4 (by simp), h 5 (by simp), h 6 (by simp), h 7 (by simp), h 8 (by simp), h 9 (by simp), h 10 (by simp), h 11 (by simp)⟩

end Go.Proofs.YtiijahoheajppaaGreat

namespace Go.Proofs.YtiijahoheajppaaGreat
open Go.ChangeShapes Go.WideShapes Go.ChangeAt Go.RowKit

end Go.Proofs.YtiijahoheajppaaGreat

namespace Go.Proofs.YtiijahoheajppaaGreat
open Go.ChangeShapes Go.WideShapes Go.ChangeAt Go.RowKit

/-- Records behind a slice. -/
def RecsV (w : World) (v : Value) (ts : List Lc) : Prop := ∃ a cap xs, v = .slice a ts.length cap ∧ ts.length ≤ cap ∧ cap ≤ maxLen ∧ RowAt w a 12 xs ∧ xs.length = ts.length ∧ ∀ i (h : i < xs.length) (g : i < ts.length), RecV w xs[i] ts[i]
theorem RecsV.on {w w' : World} {v : Value} {ts : List Lc} (h : RecsV w v ts) (b : Below w.heap.size w w') : RecsV w' v ts := by
  obtain ⟨a, cap, xs, e, h1, h2, h3, h4, h5⟩ := h; exact ⟨a, cap, xs, e, h1, h2, h3.on b, h4, fun i h g => (h5 i h g).on b⟩
theorem RecsV.lit {w : World} {v : Value} {ts : List Lc} (h : RecsV w v ts) : ∃ a cap, v = .slice a ts.length cap ∧ ts.length ≤ cap ∧ cap ≤ maxLen ∧ RecsV w (.slice a ts.length cap) ts := by
  obtain ⟨a, cap, xs, rfl, h1, h2, h3⟩ := h; exact ⟨a, cap, rfl, h1, h2, a, cap, xs, rfl, h1, h2, h3⟩
theorem RecsV.rec {w : World} {a : Option Addr} {n cap : Nat} {ts : List Lc} (h : RecsV w (.slice a n cap) ts) (k : Nat) (hk : k < ts.length) : ∃ b off ka kp ra rp ca cp oa op, a = some ⟨b, off, none⟩ ∧ RecV w #[.int .i64 ts[k].kind, .int .i64 ts[k].xid, .int .i64 ts[k].st.kind, .string ts[k].st.table, .slice ka ts[k].st.key.length kp, .slice ra ts[k].st.row.length rp, .int .i64 ts[k].st.ddl.kind, .string ts[k].st.ddl.table, .slice ca ts[k].st.ddl.cols.length cp, .slice oa ts[k].st.ddl.keys.length op, .string ts[k].st.ddl.name, .string ts[k].st.ddl.to] ts[k] ∧
    w.cell? ⟨b, off + k * 12, none⟩ = some (.int .i64 ts[k].kind) ∧ w.cell? ⟨b, off + k * 12 + 1, none⟩ = some (.int .i64 ts[k].xid) ∧ w.cell? ⟨b, off + k * 12 + 2, none⟩ = some (.int .i64 ts[k].st.kind) ∧ w.cell? ⟨b, off + k * 12 + 3, none⟩ = some (.string ts[k].st.table) ∧ w.cell? ⟨b, off + k * 12 + 4, none⟩ = some (.slice ka ts[k].st.key.length kp) ∧ w.cell? ⟨b, off + k * 12 + 5, none⟩ = some (.slice ra ts[k].st.row.length rp) ∧ w.cell? ⟨b, off + k * 12 + 6, none⟩ = some (.int .i64 ts[k].st.ddl.kind) ∧ w.cell? ⟨b, off + k * 12 + 7, none⟩ = some (.string ts[k].st.ddl.table) ∧ w.cell? ⟨b, off + k * 12 + 8, none⟩ = some (.slice ca ts[k].st.ddl.cols.length cp) ∧ w.cell? ⟨b, off + k * 12 + 9, none⟩ = some (.slice oa ts[k].st.ddl.keys.length op) ∧ w.cell? ⟨b, off + k * 12 + 10, none⟩ = some (.string ts[k].st.ddl.name) ∧ w.cell? ⟨b, off + k * 12 + 11, none⟩ = some (.string ts[k].st.ddl.to) := by
  obtain ⟨a', cap', xs, e, h1, h2, h3, h4, h5⟩ := h
  cases e
  rcases h3.2 with h0 | ⟨b, off, ha, h⟩
  · subst h0; simp at h4; omega
  · obtain ⟨ka, kp, ra, rp, ca, cp, oa, op, ex, hx, _⟩ := (h5 k (by omega) hk).lit
    have e0 := h k (by omega) 0 (by omega)
    have e1 := h k (by omega) 1 (by omega)
    have e2 := h k (by omega) 2 (by omega)
    have e3 := h k (by omega) 3 (by omega)
    have e4 := h k (by omega) 4 (by omega)
    have e5 := h k (by omega) 5 (by omega)
    have e6 := h k (by omega) 6 (by omega)
    have e7 := h k (by omega) 7 (by omega)
    have e8 := h k (by omega) 8 (by omega)
    have e9 := h k (by omega) 9 (by omega)
    have e10 := h k (by omega) 10 (by omega)
    have e11 := h k (by omega) 11 (by omega)
    rw [ex] at e0 e1 e2 e3 e4 e5 e6 e7 e8 e9 e10 e11
    exact ⟨b, off, ka, kp, ra, rp, ca, cp, oa, op, ha, hx, e0, e1, e2, e3, e4, e5, e6, e7, e8, e9, e10, e11⟩
theorem Fill.twelve {w : World} {B : Nat} {T : TypeId} {n k : Nat} {xs : List (Array Value)} (h : Fill w B T 12 n xs) (hx : xs.length = k) (hk : k < n) : ∃ v0 v1 v2 v3 v4 v5 v6 v7 v8 v9 v10 v11 : Value, (w.cell? ⟨B, k * 12, none⟩ = some v0 ∧ w.cell? ⟨B, k * 12 + 1, none⟩ = some v1 ∧ w.cell? ⟨B, k * 12 + 2, none⟩ = some v2 ∧ w.cell? ⟨B, k * 12 + 3, none⟩ = some v3 ∧ w.cell? ⟨B, k * 12 + 4, none⟩ = some v4 ∧ w.cell? ⟨B, k * 12 + 5, none⟩ = some v5 ∧ w.cell? ⟨B, k * 12 + 6, none⟩ = some v6 ∧ w.cell? ⟨B, k * 12 + 7, none⟩ = some v7 ∧ w.cell? ⟨B, k * 12 + 8, none⟩ = some v8 ∧ w.cell? ⟨B, k * 12 + 9, none⟩ = some v9 ∧ w.cell? ⟨B, k * 12 + 10, none⟩ = some v10 ∧ w.cell? ⟨B, k * 12 + 11, none⟩ = some v11) ∧ w.frozen? ⟨B, k * 12, none⟩ = false ∧ w.frozen? ⟨B, k * 12 + 1, none⟩ = false ∧ w.frozen? ⟨B, k * 12 + 2, none⟩ = false ∧ w.frozen? ⟨B, k * 12 + 3, none⟩ = false ∧ w.frozen? ⟨B, k * 12 + 4, none⟩ = false ∧ w.frozen? ⟨B, k * 12 + 5, none⟩ = false ∧ w.frozen? ⟨B, k * 12 + 6, none⟩ = false ∧ w.frozen? ⟨B, k * 12 + 7, none⟩ = false ∧ w.frozen? ⟨B, k * 12 + 8, none⟩ = false ∧ w.frozen? ⟨B, k * 12 + 9, none⟩ = false ∧ w.frozen? ⟨B, k * 12 + 10, none⟩ = false ∧ w.frozen? ⟨B, k * 12 + 11, none⟩ = false := by
  subst hx
  obtain ⟨⟨v0, c0⟩, f0⟩ := h.cell 0 (by omega) hk
  obtain ⟨⟨v1, c1⟩, f1⟩ := h.cell 1 (by omega) hk
  obtain ⟨⟨v2, c2⟩, f2⟩ := h.cell 2 (by omega) hk
  obtain ⟨⟨v3, c3⟩, f3⟩ := h.cell 3 (by omega) hk
  obtain ⟨⟨v4, c4⟩, f4⟩ := h.cell 4 (by omega) hk
  obtain ⟨⟨v5, c5⟩, f5⟩ := h.cell 5 (by omega) hk
  obtain ⟨⟨v6, c6⟩, f6⟩ := h.cell 6 (by omega) hk
  obtain ⟨⟨v7, c7⟩, f7⟩ := h.cell 7 (by omega) hk
  obtain ⟨⟨v8, c8⟩, f8⟩ := h.cell 8 (by omega) hk
  obtain ⟨⟨v9, c9⟩, f9⟩ := h.cell 9 (by omega) hk
  obtain ⟨⟨v10, c10⟩, f10⟩ := h.cell 10 (by omega) hk
  obtain ⟨⟨v11, c11⟩, f11⟩ := h.cell 11 (by omega) hk
  exact ⟨v0, v1, v2, v3, v4, v5, v6, v7, v8, v9, v10, v11, ⟨c0, c1, c2, c3, c4, c5, c6, c7, c8, c9, c10, c11⟩, f0, f1, f2, f3, f4, f5, f6, f7, f8, f9, f10, f11⟩
/-- Copied so far. -/
def Lfill (w : World) (B : Nat) (T : TypeId) (ts : List Lc) (k : Nat) : Prop := ∃ ys, Fill w B T 12 ts.length ys ∧ ys.length = k ∧ ∀ i (h : i < ys.length) (g : i < ts.length), Firm (B + 1) (fun u => RecV u ys[i] ts[i]) w
theorem Lfill.on {w w' : World} {B : Nat} {T : TypeId} {ts : List Lc} {k : Nat} (h : Lfill w B T ts k) (b : Below w.heap.size w w') : Lfill w' B T ts k := by
  obtain ⟨ys, h1, h2, h3⟩ := h
  exact ⟨ys, h1.on b, h2, fun i h g => (h3 i h g).on b⟩
theorem Lfill.put {w : World} {B : Nat} {T : TypeId} {ts : List Lc} {k : Nat} (h : Lfill w B T ts k) (hk : k < ts.length) {y : Array Value} (hy : Firm (B + 1) (fun u => RecV u y ts[k]) w) : Lfill (stores w B (k * 12) y.toList) B T ts (k + 1) := by
  obtain ⟨ys, h1, rfl, h3⟩ := h
  refine ⟨ys ++ [y], ?_, by simp, fun i h g => ?_⟩
  · have := h1.put hk y.toList (by simpa using hy.out.size)
    simpa using this
  · by_cases hi : i < ys.length
    · rw [List.getElem_append_left hi]
      exact Firm.stores (by omega) _ _ _ (h3 i hi g)
    · simp at h
      have : i = ys.length := by omega
      subst this
      simp only [List.getElem_append_right (Nat.le_refl _), Nat.sub_self, List.getElem_cons_zero]
      exact Firm.stores (by omega) _ _ _ hy
theorem Lfill.firm {w : World} {B : Nat} {T : TypeId} {ts : List Lc} (h : Lfill w B T ts ts.length) (hm : ts.length ≤ maxLen) : Firm B (fun u => RecsV u (.slice (some ⟨B, 0, none⟩) ts.length ts.length) ts) w := by
  obtain ⟨ys, h1, h2, h3⟩ := h
  intro u hu
  exact ⟨_, _, ys, rfl, Nat.le_refl _, hm, (h1.firm (Nat.le_refl _) u hu).row, h2, fun i h g => (h3 i h g) u (hu.mono (by omega))⟩
def lfits (ts : List Lc) : Prop := ∀ t ∈ ts, t.fit
def lfews (ts : List Lc) : Prop := ts.length ≤ 1048576 ∧ ∀ t ∈ ts, t.few

end Go.Proofs.YtiijahoheajppaaGreat

namespace Go.Proofs.YtiijahoheajppaaGreat
open Go.ChangeShapes Go.WideShapes Go.ChangeAt Go.RowKit

theorem StmtN.mono {B B' : Nat} {w : World} {x : Array Value} {s : Sc} (h : StmtN B w x s) (hB : B' ≤ B) : StmtN B' w x s := by
  obtain ⟨k, r, c, o, e, h1, h2, h3, h4⟩ := h
  exact ⟨k, r, c, o, e, ⟨h1.1, h1.2.mono ValsS.good hB⟩, ⟨h2.1, h2.2.mono ValsS.good hB⟩, ⟨h3.1, h3.2.mono ColsS.good hB⟩, ⟨h4.1, h4.2.mono StrsS.good hB⟩⟩
theorem StmtN.lit {B : Nat} {w : World} {x : Array Value} {t : Sc} (h : StmtN B w x t) : ∃ a p b q c r d u, x = t.cells (.slice a t.key.length p) (.slice b t.row.length q) (.slice c t.ddl.cols.length r) (.slice d t.ddl.keys.length u) ∧ True := by
  obtain ⟨a, p, b, q, c, r, d, u, e, _⟩ := h.stmt.lit
  exact ⟨a, p, b, q, c, r, d, u, e, trivial⟩
def RecN (B : Nat) (w : World) (x : Array Value) (t : Lc) : Prop := ∃ k r c o, x = t.cells k r c o ∧ ValsN B w k t.st.key ∧ ValsN B w r t.st.row ∧ ColsN B w c t.st.ddl.cols ∧ StrsN B w o t.st.ddl.keys
theorem RecN.rec {B : Nat} {w : World} {x : Array Value} {s : Lc} (h : RecN B w x s) : RecV w x s := by
  obtain ⟨k, r, c, o, e, h1, h2, h3, h4⟩ := h; exact ⟨k, r, c, o, e, h1.1, h2.1, h3.1, h4.1⟩
theorem RecN.of {B : Nat} {w : World} {t : Lc} {k r c o : Value} (h : StmtN B w #[.int .i64 t.st.kind, .string t.st.table, k, r, .int .i64 t.st.ddl.kind, .string t.st.ddl.table, c, o, .string t.st.ddl.name, .string t.st.ddl.to] t.st) : RecN B w #[.int .i64 t.kind, .int .i64 t.xid, .int .i64 t.st.kind, .string t.st.table, k, r, .int .i64 t.st.ddl.kind, .string t.st.ddl.table, c, o, .string t.st.ddl.name, .string t.st.ddl.to] t := by
  obtain ⟨k', r', c', o', e, h1, h2, h3, h4⟩ := h
  simp at e
  obtain ⟨rfl, rfl, rfl, rfl⟩ := e
  exact ⟨_, _, _, _, rfl, h1, h2, h3, h4⟩

end Go.Proofs.YtiijahoheajppaaGreat

namespace Go.Proofs.YtiijahoheajppaaGreat
open Go.ChangeShapes Go.WideShapes Go.ChangeAt Go.RowKit

/-- Copied so far, with the shape. -/
def LfillN (w : World) (B : Nat) (T : TypeId) (ts : List Lc) (k : Nat) : Prop := ∃ ys, Fill w B T 12 ts.length ys ∧ ys.length = k ∧ ∀ i (h : i < ys.length) (g : i < ts.length), Firm (B + 1) (fun u => RecN (B + 1) u ys[i] ts[i]) w
theorem RecN.size {B : Nat} {w : World} {x : Array Value} {t : Lc} (h : RecN B w x t) : x.size = 12 := h.rec.size
theorem RecN.lit {B : Nat} {w : World} {x : Array Value} {t : Lc} (h : RecN B w x t) : ∃ ka kp ra rp ca cp oa op, x = #[.int .i64 t.kind, .int .i64 t.xid, .int .i64 t.st.kind, .string t.st.table, .slice ka t.st.key.length kp, .slice ra t.st.row.length rp, .int .i64 t.st.ddl.kind, .string t.st.ddl.table, .slice ca t.st.ddl.cols.length cp, .slice oa t.st.ddl.keys.length op, .string t.st.ddl.name, .string t.st.ddl.to] ∧ True ∧ True := by
  obtain ⟨ka, kp, ra, rp, ca, cp, oa, op, e, _⟩ := h.rec.lit
  exact ⟨ka, kp, ra, rp, ca, cp, oa, op, e, trivial, trivial⟩
theorem RecN.mono {B B' : Nat} {w : World} {x : Array Value} {t : Lc} (h : RecN B w x t) (hB : B' ≤ B) : RecN B' w x t := by
  obtain ⟨k, r, c, o, e, h1, h2, h3, h4⟩ := h
  exact ⟨k, r, c, o, e, ⟨h1.1, h1.2.mono ValsS.good hB⟩, ⟨h2.1, h2.2.mono ValsS.good hB⟩, ⟨h3.1, h3.2.mono ColsS.good hB⟩, ⟨h4.1, h4.2.mono StrsS.good hB⟩⟩
theorem LfillN.on {w w' : World} {B : Nat} {T : TypeId} {ts : List Lc} {k : Nat} (h : LfillN w B T ts k) (b : Below w.heap.size w w') : LfillN w' B T ts k := by
  obtain ⟨ys, h1, h2, h3⟩ := h
  exact ⟨ys, h1.on b, h2, fun i h g => (h3 i h g).on b⟩
theorem LfillN.put {w : World} {B : Nat} {T : TypeId} {ts : List Lc} {k : Nat} (h : LfillN w B T ts k) (hk : k < ts.length) {y : Array Value} (hy : Firm (B + 1) (fun u => RecN (B + 1) u y ts[k]) w) : LfillN (stores w B (k * 12) y.toList) B T ts (k + 1) := by
  obtain ⟨ys, h1, rfl, h3⟩ := h
  refine ⟨ys ++ [y], ?_, by simp, fun i h g => ?_⟩
  · have := h1.put hk y.toList (by simpa using hy.out.size)
    simpa using this
  · by_cases hi : i < ys.length
    · rw [List.getElem_append_left hi]
      exact Firm.stores (by omega) _ _ _ (h3 i hi g)
    · simp at h
      have : i = ys.length := by omega
      subst this
      simp only [List.getElem_append_right (Nat.le_refl _), Nat.sub_self, List.getElem_cons_zero]
      exact Firm.stores (by omega) _ _ _ hy
end Go.Proofs.YtiijahoheajppaaGreat

namespace Go.Proofs.YtiijahoheajppaaGreat
open Go.ChangeShapes Go.WideShapes Go.ChangeAt Go.RowKit

/-- What a part holds. -/
structure Ptc where
  st : Sc
  cols : List ByteArray
  keys : List ByteArray
abbrev Ptc.cells (t : Ptc) (k r c o y z : Value) : Array Value := #[.int .i64 t.st.kind, .string t.st.table, k, r, .int .i64 t.st.ddl.kind, .string t.st.ddl.table, c, o, .string t.st.ddl.name, .string t.st.ddl.to, y, z]
def PartV (w : World) (x : Array Value) (t : Ptc) : Prop := ∃ k r c o y z, x = t.cells k r c o y z ∧ ValsV w k t.st.key ∧ ValsV w r t.st.row ∧ ColsV w c t.st.ddl.cols ∧ StrsV w o t.st.ddl.keys ∧ StrsV w y t.cols ∧ StrsV w z t.keys
theorem PartV.on {w w' : World} {x : Array Value} {t : Ptc} (h : PartV w x t) (b : Below w.heap.size w w') : PartV w' x t := by
  obtain ⟨k, r, c, o, y, z, e, h1, h2, h3, h4, h5, h6⟩ := h; exact ⟨k, r, c, o, y, z, e, h1.on b, h2.on b, h3.on b, h4.on b, h5.on b, h6.on b⟩
theorem PartV.lit {w : World} {x : Array Value} {t : Ptc} (h : PartV w x t) : ∃ ka kp ra rp ca cp oa op ya yp za zp, x = #[.int .i64 t.st.kind, .string t.st.table, .slice ka t.st.key.length kp, .slice ra t.st.row.length rp, .int .i64 t.st.ddl.kind, .string t.st.ddl.table, .slice ca t.st.ddl.cols.length cp, .slice oa t.st.ddl.keys.length op, .string t.st.ddl.name, .string t.st.ddl.to, .slice ya t.cols.length yp, .slice za t.keys.length zp] ∧ PartV w #[.int .i64 t.st.kind, .string t.st.table, .slice ka t.st.key.length kp, .slice ra t.st.row.length rp, .int .i64 t.st.ddl.kind, .string t.st.ddl.table, .slice ca t.st.ddl.cols.length cp, .slice oa t.st.ddl.keys.length op, .string t.st.ddl.name, .string t.st.ddl.to, .slice ya t.cols.length yp, .slice za t.keys.length zp] t ∧ StmtV w #[.int .i64 t.st.kind, .string t.st.table, .slice ka t.st.key.length kp, .slice ra t.st.row.length rp, .int .i64 t.st.ddl.kind, .string t.st.ddl.table, .slice ca t.st.ddl.cols.length cp, .slice oa t.st.ddl.keys.length op, .string t.st.ddl.name, .string t.st.ddl.to] t.st ∧ StrsV w (.slice ya t.cols.length yp) t.cols ∧ StrsV w (.slice za t.keys.length zp) t.keys := by
  obtain ⟨k, r, c, o, y, z, rfl, h1, h2, h3, h4, h5, h6⟩ := h
  obtain ⟨a, p, rfl, _⟩ := h1.lit
  obtain ⟨b, q, rfl, _⟩ := h2.lit
  obtain ⟨c, r, rfl, h3'⟩ := id h3
  obtain ⟨d, u, rfl, h4'⟩ := id h4
  obtain ⟨e, v, rfl, h5'⟩ := id h5
  obtain ⟨f, x, rfl, h6'⟩ := id h6
  exact ⟨a, p, b, q, c, r, d, u, e, v, f, x, rfl, ⟨_, _, _, _, _, _, rfl, h1, h2, h3, h4, h5, h6⟩, ⟨_, _, _, _, rfl, h1, h2, h3, h4⟩, h5, h6⟩
theorem PartV.size {w : World} {x : Array Value} {t : Ptc} (h : PartV w x t) : x.size = 12 := by
  obtain ⟨k, r, c, o, y, z, rfl, _⟩ := h; rfl
def Ptc.fit (t : Ptc) : Prop := t.st.fit ∧ (∀ s ∈ t.cols, s.size ≤ maxLen) ∧ ∀ s ∈ t.keys, s.size ≤ maxLen
def Ptc.few (t : Ptc) : Prop := t.st.few ∧ t.cols.length ≤ 1048576 ∧ t.keys.length ≤ 1048576

set_option maxRecDepth 100000 in
set_option maxHeartbeats 1000000 in
/-- laws.szPart -/
theorem szPart_any (x : Array Value) (t : Ptc) (l : Int) (w : World) (hx : PartV w x t) (hf : t.fit) (h0 : 0 ≤ l) (h1 : l ≤ 1048576) :
    Calls Tryz.prog 60 #[.agg x, .int .i64 l] w fun e w' => ∃ r : Int, e = .returned (.int .i64 r) ∧ Below w.heap.size w w' ∧ (r = -1 ∨ (0 ≤ r ∧ r ≤ l ∧ t.few)) := by
  obtain ⟨ka, kp, ra, rp, ca, cp, oa, op, ya, yp, za, zp, rfl, _, hs, hy, hz⟩ := hx.lit
  have HS : Hid (StmtV w #[.int .i64 t.st.kind, .string t.st.table, .slice ka t.st.key.length kp, .slice ra t.st.row.length rp, .int .i64 t.st.ddl.kind, .string t.st.ddl.table, .slice ca t.st.ddl.cols.length cp, .slice oa t.st.ddl.keys.length op, .string t.st.ddl.name, .string t.st.ddl.to] t.st ∧ t.st.fit) := ⟨hs, hf.1⟩
  have HY : Hid (StrsV w (.slice ya t.cols.length yp) t.cols ∧ ∀ s ∈ t.cols, s.size ≤ maxLen) := ⟨hy, hf.2.1⟩
  have HZ : Hid (StrsV w (.slice za t.keys.length zp) t.keys ∧ ∀ s ∈ t.keys, s.size ≤ maxLen) := ⟨hz, hf.2.2⟩
  clear hs hy hz hx hf
  have HL := Loc.new w #[.int .i64 t.st.kind, .string t.st.table, .slice ka t.st.key.length kp, .slice ra t.st.row.length rp, .int .i64 t.st.ddl.kind, .string t.st.ddl.table, .slice ca t.st.ddl.cols.length cp, .slice oa t.st.ddl.keys.length op, .string t.st.ddl.name, .string t.st.ddl.to, .slice ya t.cols.length yp, .slice za t.keys.length zp] 107
  have hbv : Below w.heap.size w (w.alloc (.cells #[.int .i64 t.st.kind, .string t.st.table, .slice ka t.st.key.length kp, .slice ra t.st.row.length rp, .int .i64 t.st.ddl.kind, .string t.st.ddl.table, .slice ca t.st.ddl.cols.length cp, .slice oa t.st.ddl.keys.length op, .string t.st.ddl.name, .string t.st.ddl.to, .slice ya t.cols.length yp, .slice za t.keys.length zp] 107)) := (by repeat (first | with_reducible exact Below.refl _ _ | with_reducible assumption | with_reducible refine ch_alloc ?_ _ | with_reducible refine Below.drew ?_ | with_reducible refine below_draws _ ?_ | (with_reducible refine Below.setCell ?_ ?_ _; rotate_left; focus (first | with_reducible exact Nat.le_refl _ | (simp; done) | (simp; omega) | (simp at *; omega))) | with_reducible refine ch_trans ?_ (by with_reducible assumption)))
  go_enter Tryz.func60, Tryz.ntmps60
  go_wp2_with fail
  refine (szStmt_any _ t.st l _ (HS.out.1.on hbv) HS.out.2 h0 h1).mono ?_
  rintro e w1 ⟨r, rfl, b1, hr⟩
  have HL1 := HL.on b1
  have hb1 := ch_trans hbv b1
  clear b1 hbv HL
  obtain ⟨c0, c1, c2, c3, c4, c5, c6, c7, c8, c9, c10, c11⟩ := HL1.twelve
  rcases hr with rfl | ⟨r0, r1, r2⟩
  · go_wp2
    go_ret
    exact ⟨_, rfl, hb1, Or.inl rfl⟩
  have HR : Hid t.st.few := r2
  clear r2
  go_wp2_with fail
  refine (szStringS_any _ t.cols r _ (HY.out.1.on hb1) HY.out.2 r0 (by omega)).mono ?_
  rintro e w2 ⟨q, rfl, b2, hq⟩
  have HL2 := HL1.on b2
  have hb2 := ch_trans hb1 b2
  clear b2 hb1 HL1 c0 c1 c2 c3 c4 c5 c6 c7 c8 c9 c10 c11
  obtain ⟨c0, c1, c2, c3, c4, c5, c6, c7, c8, c9, c10, c11⟩ := HL2.twelve
  rcases hq with rfl | ⟨q0, q1, q2⟩
  · go_wp2
    go_ret
    exact ⟨_, rfl, hb2, Or.inl rfl⟩
  have HQ : Hid (t.cols.length ≤ 1048576) := q2
  clear q2
  go_wp2_with fail
  refine (szStringS_any _ t.keys q _ (HZ.out.1.on hb2) HZ.out.2 q0 (by omega)).mono ?_
  rintro e w3 ⟨p, rfl, b3, hp⟩
  have hb3 := ch_trans hb2 b3
  clear b3 hb2 c0 c1 c2 c3 c4 c5 c6 c7 c8 c9 c10 c11
  rcases hp with rfl | ⟨p0, p1, p2⟩
  · go_wp2
    go_ret
    exact ⟨_, rfl, hb3, Or.inl rfl⟩
  have HP : Hid (t.keys.length ≤ 1048576) := p2
  clear p2
  go_wp2
  go_ret
  exact ⟨_, rfl, hb3, Or.inr ⟨p0, by omega, HR.out, HQ.out, HP.out⟩⟩

set_option maxRecDepth 100000 in
set_option maxHeartbeats 1000000 in
/-- laws.eqPart -/
theorem eqPart_same (x y : Array Value) (t : Ptc) (w : World) (hx : PartV w x t) (hy : PartV w y t) : Calls Tryz.prog 73 #[.agg x, .agg y] w fun e w' => e = .returned (.bool true) ∧ Below w.heap.size w w' := by
  obtain ⟨ka, kp, ra, rp, ca, cp, oa, op, ya, yp, za, zp, rfl, _, hs, hy0, hz0⟩ := hx.lit
  obtain ⟨ka1, kp1, ra1, rp1, ca1, cp1, oa1, op1, ya1, yp1, za1, zp1, rfl, _, hs1, hy1, hz1⟩ := hy.lit
  have HS : Hid (StmtV w #[.int .i64 t.st.kind, .string t.st.table, .slice ka t.st.key.length kp, .slice ra t.st.row.length rp, .int .i64 t.st.ddl.kind, .string t.st.ddl.table, .slice ca t.st.ddl.cols.length cp, .slice oa t.st.ddl.keys.length op, .string t.st.ddl.name, .string t.st.ddl.to] t.st ∧ StmtV w #[.int .i64 t.st.kind, .string t.st.table, .slice ka1 t.st.key.length kp1, .slice ra1 t.st.row.length rp1, .int .i64 t.st.ddl.kind, .string t.st.ddl.table, .slice ca1 t.st.ddl.cols.length cp1, .slice oa1 t.st.ddl.keys.length op1, .string t.st.ddl.name, .string t.st.ddl.to] t.st) := ⟨hs, hs1⟩
  have HY : Hid (StrsV w (.slice ya t.cols.length yp) t.cols ∧ StrsV w (.slice ya1 t.cols.length yp1) t.cols) := ⟨hy0, hy1⟩
  have HZ : Hid (StrsV w (.slice za t.keys.length zp) t.keys ∧ StrsV w (.slice za1 t.keys.length zp1) t.keys) := ⟨hz0, hz1⟩
  clear hs hs1 hy0 hy1 hz0 hz1 hx hy
  have HL := Loc.new w #[.int .i64 t.st.kind, .string t.st.table, .slice ka t.st.key.length kp, .slice ra t.st.row.length rp, .int .i64 t.st.ddl.kind, .string t.st.ddl.table, .slice ca t.st.ddl.cols.length cp, .slice oa t.st.ddl.keys.length op, .string t.st.ddl.name, .string t.st.ddl.to, .slice ya t.cols.length yp, .slice za t.keys.length zp] 68
  have HM := Loc.new (w.alloc (.cells #[.int .i64 t.st.kind, .string t.st.table, .slice ka t.st.key.length kp, .slice ra t.st.row.length rp, .int .i64 t.st.ddl.kind, .string t.st.ddl.table, .slice ca t.st.ddl.cols.length cp, .slice oa t.st.ddl.keys.length op, .string t.st.ddl.name, .string t.st.ddl.to, .slice ya t.cols.length yp, .slice za t.keys.length zp] 68)) #[.int .i64 t.st.kind, .string t.st.table, .slice ka1 t.st.key.length kp1, .slice ra1 t.st.row.length rp1, .int .i64 t.st.ddl.kind, .string t.st.ddl.table, .slice ca1 t.st.ddl.cols.length cp1, .slice oa1 t.st.ddl.keys.length op1, .string t.st.ddl.name, .string t.st.ddl.to, .slice ya1 t.cols.length yp1, .slice za1 t.keys.length zp1] 68
  rw [show (w.alloc (.cells #[.int .i64 t.st.kind, .string t.st.table, .slice ka t.st.key.length kp, .slice ra t.st.row.length rp, .int .i64 t.st.ddl.kind, .string t.st.ddl.table, .slice ca t.st.ddl.cols.length cp, .slice oa t.st.ddl.keys.length op, .string t.st.ddl.name, .string t.st.ddl.to, .slice ya t.cols.length yp, .slice za t.keys.length zp] 68)).heap.size = w.heap.size + 1 from by simp] at HM
  go_enter Tryz.func73, Tryz.ntmps73
  go_wp2_with fail
  refine (eqStmt_same _ _ t.st _ (HS.out.1.on (by repeat (first | with_reducible exact Below.refl _ _ | with_reducible assumption | with_reducible refine ch_alloc ?_ _ | with_reducible refine Below.drew ?_ | with_reducible refine below_draws _ ?_ | (with_reducible refine Below.setCell ?_ ?_ _; rotate_left; focus (first | with_reducible exact Nat.le_refl _ | (simp; done) | (simp; omega) | (simp at *; omega))) | with_reducible refine ch_trans ?_ (by with_reducible assumption)))) (HS.out.2.on (by repeat (first | with_reducible exact Below.refl _ _ | with_reducible assumption | with_reducible refine ch_alloc ?_ _ | with_reducible refine Below.drew ?_ | with_reducible refine below_draws _ ?_ | (with_reducible refine Below.setCell ?_ ?_ _; rotate_left; focus (first | with_reducible exact Nat.le_refl _ | (simp; done) | (simp; omega) | (simp at *; omega))) | with_reducible refine ch_trans ?_ (by with_reducible assumption))))).mono ?_
  rintro e w1 ⟨rfl, b1⟩
  have HL1 := HL.on (w' := w1) (by repeat (first | with_reducible exact Below.refl _ _ | with_reducible assumption | with_reducible refine ch_alloc ?_ _ | with_reducible refine Below.drew ?_ | with_reducible refine below_draws _ ?_ | (with_reducible refine Below.setCell ?_ ?_ _; rotate_left; focus (first | with_reducible exact Nat.le_refl _ | (simp; done) | (simp; omega) | (simp at *; omega))) | with_reducible refine ch_trans ?_ (by with_reducible assumption)))
  have HM1 := HM.on (w' := w1) (by repeat (first | with_reducible exact Below.refl _ _ | with_reducible assumption | with_reducible refine ch_alloc ?_ _ | with_reducible refine Below.drew ?_ | with_reducible refine below_draws _ ?_ | (with_reducible refine Below.setCell ?_ ?_ _; rotate_left; focus (first | with_reducible exact Nat.le_refl _ | (simp; done) | (simp; omega) | (simp at *; omega))) | with_reducible refine ch_trans ?_ (by with_reducible assumption)))
  have hb1 : Below w.heap.size w w1 := (by repeat (first | with_reducible exact Below.refl _ _ | with_reducible assumption | with_reducible refine ch_alloc ?_ _ | with_reducible refine Below.drew ?_ | with_reducible refine below_draws _ ?_ | (with_reducible refine Below.setCell ?_ ?_ _; rotate_left; focus (first | with_reducible exact Nat.le_refl _ | (simp; done) | (simp; omega) | (simp at *; omega))) | with_reducible refine ch_trans ?_ (by with_reducible assumption)))
  clear b1 HL HM
  obtain ⟨c0, c1, c2, c3, c4, c5, c6, c7, c8, c9, c10, c11⟩ := HL1.twelve
  obtain ⟨d0, d1, d2, d3, d4, d5, d6, d7, d8, d9, d10, d11⟩ := HM1.twelve
  go_wp2_with fail
  refine (eqStringS_same _ _ t.cols _ (HY.out.1.on (by repeat (first | with_reducible exact Below.refl _ _ | with_reducible assumption | with_reducible refine ch_alloc ?_ _ | with_reducible refine Below.drew ?_ | with_reducible refine below_draws _ ?_ | (with_reducible refine Below.setCell ?_ ?_ _; rotate_left; focus (first | with_reducible exact Nat.le_refl _ | (simp; done) | (simp; omega) | (simp at *; omega))) | with_reducible refine ch_trans ?_ (by with_reducible assumption)))) (HY.out.2.on (by repeat (first | with_reducible exact Below.refl _ _ | with_reducible assumption | with_reducible refine ch_alloc ?_ _ | with_reducible refine Below.drew ?_ | with_reducible refine below_draws _ ?_ | (with_reducible refine Below.setCell ?_ ?_ _; rotate_left; focus (first | with_reducible exact Nat.le_refl _ | (simp; done) | (simp; omega) | (simp at *; omega))) | with_reducible refine ch_trans ?_ (by with_reducible assumption))))).mono ?_
  rintro e w2 ⟨rfl, b2⟩
  have HL2 := HL1.on (w' := w2) (by repeat (first | with_reducible exact Below.refl _ _ | with_reducible assumption | with_reducible refine ch_alloc ?_ _ | with_reducible refine Below.drew ?_ | with_reducible refine below_draws _ ?_ | (with_reducible refine Below.setCell ?_ ?_ _; rotate_left; focus (first | with_reducible exact Nat.le_refl _ | (simp; done) | (simp; omega) | (simp at *; omega))) | with_reducible refine ch_trans ?_ (by with_reducible assumption)))
  have HM2 := HM1.on (w' := w2) (by repeat (first | with_reducible exact Below.refl _ _ | with_reducible assumption | with_reducible refine ch_alloc ?_ _ | with_reducible refine Below.drew ?_ | with_reducible refine below_draws _ ?_ | (with_reducible refine Below.setCell ?_ ?_ _; rotate_left; focus (first | with_reducible exact Nat.le_refl _ | (simp; done) | (simp; omega) | (simp at *; omega))) | with_reducible refine ch_trans ?_ (by with_reducible assumption)))
  have hb2 : Below w.heap.size w w2 := (by repeat (first | with_reducible exact Below.refl _ _ | with_reducible assumption | with_reducible refine ch_alloc ?_ _ | with_reducible refine Below.drew ?_ | with_reducible refine below_draws _ ?_ | (with_reducible refine Below.setCell ?_ ?_ _; rotate_left; focus (first | with_reducible exact Nat.le_refl _ | (simp; done) | (simp; omega) | (simp at *; omega))) | with_reducible refine ch_trans ?_ (by with_reducible assumption)))
  clear c0 c1 c2 c3 c4 c5 c6 c7 c8 c9 c10 c11 d0 d1 d2 d3 d4 d5 d6 d7 d8 d9 d10 d11 b2 hb1 HL1 HM1
  obtain ⟨c0, c1, c2, c3, c4, c5, c6, c7, c8, c9, c10, c11⟩ := HL2.twelve
  obtain ⟨d0, d1, d2, d3, d4, d5, d6, d7, d8, d9, d10, d11⟩ := HM2.twelve
  go_wp2_with fail
  refine (eqStringS_same _ _ t.keys _ (HZ.out.1.on (by repeat (first | with_reducible exact Below.refl _ _ | with_reducible assumption | with_reducible refine ch_alloc ?_ _ | with_reducible refine Below.drew ?_ | with_reducible refine below_draws _ ?_ | (with_reducible refine Below.setCell ?_ ?_ _; rotate_left; focus (first | with_reducible exact Nat.le_refl _ | (simp; done) | (simp; omega) | (simp at *; omega))) | with_reducible refine ch_trans ?_ (by with_reducible assumption)))) (HZ.out.2.on (by repeat (first | with_reducible exact Below.refl _ _ | with_reducible assumption | with_reducible refine ch_alloc ?_ _ | with_reducible refine Below.drew ?_ | with_reducible refine below_draws _ ?_ | (with_reducible refine Below.setCell ?_ ?_ _; rotate_left; focus (first | with_reducible exact Nat.le_refl _ | (simp; done) | (simp; omega) | (simp at *; omega))) | with_reducible refine ch_trans ?_ (by with_reducible assumption))))).mono ?_
  rintro e w3 ⟨rfl, b3⟩
  go_wp2
  go_ret
  exact ⟨rfl, (by repeat (first | with_reducible exact Below.refl _ _ | with_reducible assumption | with_reducible refine ch_alloc ?_ _ | with_reducible refine Below.drew ?_ | with_reducible refine below_draws _ ?_ | (with_reducible refine Below.setCell ?_ ?_ _; rotate_left; focus (first | with_reducible exact Nat.le_refl _ | (simp; done) | (simp; omega) | (simp at *; omega))) | with_reducible refine ch_trans ?_ (by with_reducible assumption)))⟩

/-- Parts behind a slice. -/
def PartsV (w : World) (v : Value) (ts : List Ptc) : Prop := ∃ a cap xs, v = .slice a ts.length cap ∧ ts.length ≤ cap ∧ cap ≤ maxLen ∧ RowAt w a 12 xs ∧ xs.length = ts.length ∧ ∀ i (h : i < xs.length) (g : i < ts.length), PartV w xs[i] ts[i]
theorem PartsV.on {w w' : World} {v : Value} {ts : List Ptc} (h : PartsV w v ts) (b : Below w.heap.size w w') : PartsV w' v ts := by
  obtain ⟨a, cap, xs, e, h1, h2, h3, h4, h5⟩ := h; exact ⟨a, cap, xs, e, h1, h2, h3.on b, h4, fun i h g => (h5 i h g).on b⟩
theorem PartsV.lit {w : World} {v : Value} {ts : List Ptc} (h : PartsV w v ts) : ∃ a cap, v = .slice a ts.length cap ∧ ts.length ≤ cap ∧ cap ≤ maxLen ∧ PartsV w (.slice a ts.length cap) ts := by
  obtain ⟨a, cap, xs, rfl, h1, h2, h3⟩ := h; exact ⟨a, cap, rfl, h1, h2, a, cap, xs, rfl, h1, h2, h3⟩
theorem PartsV.part {w : World} {a : Option Addr} {n cap : Nat} {ts : List Ptc} (h : PartsV w (.slice a n cap) ts) (k : Nat) (hk : k < ts.length) : ∃ b off ka kp ra rp ca cp oa op ya yp za zp, a = some ⟨b, off, none⟩ ∧ PartV w #[.int .i64 ts[k].st.kind, .string ts[k].st.table, .slice ka ts[k].st.key.length kp, .slice ra ts[k].st.row.length rp, .int .i64 ts[k].st.ddl.kind, .string ts[k].st.ddl.table, .slice ca ts[k].st.ddl.cols.length cp, .slice oa ts[k].st.ddl.keys.length op, .string ts[k].st.ddl.name, .string ts[k].st.ddl.to, .slice ya ts[k].cols.length yp, .slice za ts[k].keys.length zp] ts[k] ∧
    w.cell? ⟨b, off + k * 12, none⟩ = some (.int .i64 ts[k].st.kind) ∧ w.cell? ⟨b, off + k * 12 + 1, none⟩ = some (.string ts[k].st.table) ∧ w.cell? ⟨b, off + k * 12 + 2, none⟩ = some (.slice ka ts[k].st.key.length kp) ∧ w.cell? ⟨b, off + k * 12 + 3, none⟩ = some (.slice ra ts[k].st.row.length rp) ∧ w.cell? ⟨b, off + k * 12 + 4, none⟩ = some (.int .i64 ts[k].st.ddl.kind) ∧ w.cell? ⟨b, off + k * 12 + 5, none⟩ = some (.string ts[k].st.ddl.table) ∧ w.cell? ⟨b, off + k * 12 + 6, none⟩ = some (.slice ca ts[k].st.ddl.cols.length cp) ∧ w.cell? ⟨b, off + k * 12 + 7, none⟩ = some (.slice oa ts[k].st.ddl.keys.length op) ∧ w.cell? ⟨b, off + k * 12 + 8, none⟩ = some (.string ts[k].st.ddl.name) ∧ w.cell? ⟨b, off + k * 12 + 9, none⟩ = some (.string ts[k].st.ddl.to) ∧ w.cell? ⟨b, off + k * 12 + 10, none⟩ = some (.slice ya ts[k].cols.length yp) ∧ w.cell? ⟨b, off + k * 12 + 11, none⟩ = some (.slice za ts[k].keys.length zp) := by
  obtain ⟨a', cap', xs, e, h1, h2, h3, h4, h5⟩ := h
  cases e
  rcases h3.2 with h0 | ⟨b, off, ha, h⟩
  · subst h0; simp at h4; omega
  · obtain ⟨ka, kp, ra, rp, ca, cp, oa, op, ya, yp, za, zp, ex, hx, _⟩ := (h5 k (by omega) hk).lit
    have e0 := h k (by omega) 0 (by omega)
    have e1 := h k (by omega) 1 (by omega)
    have e2 := h k (by omega) 2 (by omega)
    have e3 := h k (by omega) 3 (by omega)
    have e4 := h k (by omega) 4 (by omega)
    have e5 := h k (by omega) 5 (by omega)
    have e6 := h k (by omega) 6 (by omega)
    have e7 := h k (by omega) 7 (by omega)
    have e8 := h k (by omega) 8 (by omega)
    have e9 := h k (by omega) 9 (by omega)
    have e10 := h k (by omega) 10 (by omega)
    have e11 := h k (by omega) 11 (by omega)
    rw [ex] at e0 e1 e2 e3 e4 e5 e6 e7 e8 e9 e10 e11
    exact ⟨b, off, ka, kp, ra, rp, ca, cp, oa, op, ya, yp, za, zp, ha, hx, e0, e1, e2, e3, e4, e5, e6, e7, e8, e9, e10, e11⟩
def pfits (ts : List Ptc) : Prop := ∀ t ∈ ts, t.fit
def pfews (ts : List Ptc) : Prop := ts.length ≤ 1048576 ∧ ∀ t ∈ ts, t.few

set_option maxRecDepth 100000 in
set_option maxHeartbeats 1000000 in
/-- laws.szPartS -/
theorem szPartS_any (v : Value) (ts : List Ptc) (l : Int) (w : World) (hx : PartsV w v ts) (hf : pfits ts) (h0 : 0 ≤ l) (h1 : l ≤ 1048576) :
    Calls Tryz.prog 28 #[v, .int .i64 l] w fun e w' => ∃ r : Int, e = .returned (.int .i64 r) ∧ Below w.heap.size w w' ∧ (r = -1 ∨ (0 ≤ r ∧ r ≤ l ∧ pfews ts)) := by
  obtain ⟨a, cap, rfl, hl, hm, hx⟩ := hx.lit
  unfold maxLen at hm
  have HX : Hid (PartsV w (.slice a ts.length cap) ts) := hx
  have HF : Hid (pfits ts) := hf
  clear hx hf
  by_cases hn : l < ts.length
  · go_enter Tryz.func28, Tryz.ntmps28
    go_wp2
    go_ret
    exact ⟨_, rfl, (by repeat (first | with_reducible exact Below.refl _ _ | with_reducible assumption | with_reducible refine ch_alloc ?_ _ | with_reducible refine Below.drew ?_ | with_reducible refine below_draws _ ?_ | (with_reducible refine Below.setCell ?_ ?_ _; rotate_left; focus (first | with_reducible exact Nat.le_refl _ | (simp; done) | (simp; omega) | (simp at *; omega))) | with_reducible refine ch_trans ?_ (by with_reducible assumption))), Or.inl rfl⟩
  have hn' : ts.length ≤ 1048576 := by omega
  go_enter Tryz.func28, Tryz.ntmps28
  go_wp2
  go_loopw [1, 5] (fun b i wr => ∃ (k : Nat) (r : Int), k ≤ ts.length ∧ i = .int .i64 k ∧ b = .int .i64 r ∧ 0 ≤ r ∧ r ≤ l ∧ Below w.heap.size w wr ∧ Hid (∀ i (h : i < ts.length), i < k → ts[i].few)) (fun _ i _ => ts.length - (intOf i).toNat)
  case atStart => exact ⟨0, _, Nat.zero_le _, rfl, rfl, by omega, by omega, (by repeat (first | with_reducible exact Below.refl _ _ | with_reducible assumption | with_reducible refine ch_alloc ?_ _ | with_reducible refine Below.drew ?_ | with_reducible refine below_draws _ ?_ | (with_reducible refine Below.setCell ?_ ?_ _; rotate_left; focus (first | with_reducible exact Nat.le_refl _ | (simp; done) | (simp; omega) | (simp at *; omega))) | with_reducible refine ch_trans ?_ (by with_reducible assumption))), fun i h hi => by omega⟩
  case round =>
    obtain ⟨k, r, hk, rfl, rfl, hr0, hr1, hb, HN⟩ := hrel
    by_cases hlt : k < ts.length
    · have hlti : (k : Int) < ts.length := by omega
      obtain ⟨b, off, ka, kp, ra, rp, ca, cp, oa, op, ya, yp, za, zp, rfl, hx, d0, d1, d2, d3, d4, d5, d6, d7, d8, d9, d10, d11⟩ := (HX.out.on hb).part k hlt
      have HY : Hid (PartV wr #[.int .i64 ts[k].st.kind, .string ts[k].st.table, .slice ka ts[k].st.key.length kp, .slice ra ts[k].st.row.length rp, .int .i64 ts[k].st.ddl.kind, .string ts[k].st.ddl.table, .slice ca ts[k].st.ddl.cols.length cp, .slice oa ts[k].st.ddl.keys.length op, .string ts[k].st.ddl.name, .string ts[k].st.ddl.to, .slice ya ts[k].cols.length yp, .slice za ts[k].keys.length zp] ts[k]) := hx
      clear hx
      go_wp2_with fail
      refine (szPart_any _ ts[k] r _ (HY.out.on (by repeat (first | with_reducible exact Below.refl _ _ | with_reducible assumption | with_reducible refine ch_alloc ?_ _ | with_reducible refine Below.drew ?_ | with_reducible refine below_draws _ ?_ | (with_reducible refine Below.setCell ?_ ?_ _; rotate_left; focus (first | with_reducible exact Nat.le_refl _ | (simp; done) | (simp; omega) | (simp at *; omega))) | with_reducible refine ch_trans ?_ (by with_reducible assumption)))) (HF.out _ (List.getElem_mem hlt)) hr0 (by omega)).mono ?_
      rintro e w1 ⟨q, rfl, b1, hq⟩
      rcases hq with rfl | ⟨q0, q1, q2⟩
      · go_wp2
        go_ret
        exact ⟨_, rfl, (by repeat (first | with_reducible exact Below.refl _ _ | with_reducible assumption | with_reducible refine ch_alloc ?_ _ | with_reducible refine Below.drew ?_ | with_reducible refine below_draws _ ?_ | (with_reducible refine Below.setCell ?_ ?_ _; rotate_left; focus (first | with_reducible exact Nat.le_refl _ | (simp; done) | (simp; omega) | (simp at *; omega))) | with_reducible refine ch_trans ?_ (by with_reducible assumption))), Or.inl rfl⟩
      · have HN' : Hid (∀ i (h : i < ts.length), i < k + 1 → ts[i].few) := fun i h hi => by
          by_cases e : i = k
          · subst e; exact q2
          · exact HN.out i h (by omega)
        clear q2
        go_wp2
        go_round
        case rel => exact ⟨k + 1, q, by omega, by go_num, rfl, q0, by omega, (by repeat (first | with_reducible exact Below.refl _ _ | with_reducible assumption | with_reducible refine ch_alloc ?_ _ | with_reducible refine Below.drew ?_ | with_reducible refine below_draws _ ?_ | (with_reducible refine Below.setCell ?_ ?_ _; rotate_left; focus (first | with_reducible exact Nat.le_refl _ | (simp; done) | (simp; omega) | (simp at *; omega))) | with_reducible refine ch_trans ?_ (by with_reducible assumption))), HN'⟩
        case measure => simp [intOf]; omega
    · have hlti : (ts.length : Int) ≤ k := by omega
      have HG : Hid (pfews ts) := ⟨hn', fun t ht => by
        obtain ⟨i, hi, rfl⟩ := List.getElem_of_mem ht
        exact HN.out i hi (by omega)⟩
      go_wp2
      go_ret
      exact ⟨_, rfl, (by repeat (first | with_reducible exact Below.refl _ _ | with_reducible assumption | with_reducible refine ch_alloc ?_ _ | with_reducible refine Below.drew ?_ | with_reducible refine below_draws _ ?_ | (with_reducible refine Below.setCell ?_ ?_ _; rotate_left; focus (first | with_reducible exact Nat.le_refl _ | (simp; done) | (simp; omega) | (simp at *; omega))) | with_reducible refine ch_trans ?_ (by with_reducible assumption))), Or.inr ⟨hr0, hr1, HG.out⟩⟩

set_option maxRecDepth 100000 in
set_option maxHeartbeats 1000000 in
/-- laws.eqPartS -/
theorem eqPartS_same (av bv : Value) (ts : List Ptc) (w : World) (ha : PartsV w av ts) (hb : PartsV w bv ts) : Calls Tryz.prog 36 #[av, bv] w fun e w' => e = .returned (.bool true) ∧ Below w.heap.size w w' := by
  obtain ⟨a, cap, rfl, hl, hm, ha⟩ := ha.lit
  obtain ⟨a', cap', rfl, hl', hm', hb⟩ := hb.lit
  unfold maxLen at hm
  have HC : Hid (PartsV w (.slice a ts.length cap) ts) := ha
  have HC' : Hid (PartsV w (.slice a' ts.length cap') ts) := hb
  clear ha hb hm' hl'
  go_enter Tryz.func36, Tryz.ntmps36
  go_wp2
  go_loopw [5] (fun i wr => ∃ k : Nat, k ≤ ts.length ∧ i = .int .i64 k ∧ Below w.heap.size w wr) (fun i _ => ts.length - (intOf i).toNat)
  case atStart => exact ⟨0, Nat.zero_le _, rfl, (by repeat (first | with_reducible exact Below.refl _ _ | with_reducible assumption | with_reducible refine ch_alloc ?_ _ | with_reducible refine Below.drew ?_ | with_reducible refine below_draws _ ?_ | (with_reducible refine Below.setCell ?_ ?_ _; rotate_left; focus (first | with_reducible exact Nat.le_refl _ | (simp; done) | (simp; omega) | (simp at *; omega))) | with_reducible refine ch_trans ?_ (by with_reducible assumption)))⟩
  case round =>
    obtain ⟨k, hk, rfl, hb⟩ := hrel
    by_cases hlt : k < ts.length
    · have hlti : (k : Int) < ts.length := by omega
      obtain ⟨b, off, ka, kp, ra, rp, ca, cp, oa, op, ya, yp, za, zp, rfl, hx, d0, d1, d2, d3, d4, d5, d6, d7, d8, d9, d10, d11⟩ := (HC.out.on hb).part k hlt
      obtain ⟨b', off', ka1, kp1, ra1, rp1, ca1, cp1, oa1, op1, ya1, yp1, za1, zp1, rfl, hx', g0, g1, g2, g3, g4, g5, g6, g7, g8, g9, g10, g11⟩ := (HC'.out.on hb).part k hlt
      have HY : Hid (PartV wr #[.int .i64 ts[k].st.kind, .string ts[k].st.table, .slice ka ts[k].st.key.length kp, .slice ra ts[k].st.row.length rp, .int .i64 ts[k].st.ddl.kind, .string ts[k].st.ddl.table, .slice ca ts[k].st.ddl.cols.length cp, .slice oa ts[k].st.ddl.keys.length op, .string ts[k].st.ddl.name, .string ts[k].st.ddl.to, .slice ya ts[k].cols.length yp, .slice za ts[k].keys.length zp] ts[k]) := hx
      have HY' : Hid (PartV wr #[.int .i64 ts[k].st.kind, .string ts[k].st.table, .slice ka1 ts[k].st.key.length kp1, .slice ra1 ts[k].st.row.length rp1, .int .i64 ts[k].st.ddl.kind, .string ts[k].st.ddl.table, .slice ca1 ts[k].st.ddl.cols.length cp1, .slice oa1 ts[k].st.ddl.keys.length op1, .string ts[k].st.ddl.name, .string ts[k].st.ddl.to, .slice ya1 ts[k].cols.length yp1, .slice za1 ts[k].keys.length zp1] ts[k]) := hx'
      clear hx hx'
      go_wp2_with fail
      go_region_with (go_at_call 73; refine (eqPart_same _ _ ts[k] _ (HY.out.on (by repeat (first | with_reducible exact Below.refl _ _ | with_reducible assumption | with_reducible refine ch_alloc ?_ _ | with_reducible refine Below.drew ?_ | with_reducible refine below_draws _ ?_ | (with_reducible refine Below.setCell ?_ ?_ _; rotate_left; focus (first | with_reducible exact Nat.le_refl _ | (simp; done) | (simp; omega) | (simp at *; omega))) | with_reducible refine ch_trans ?_ (by with_reducible assumption)))) (HY'.out.on (by repeat (first | with_reducible exact Below.refl _ _ | with_reducible assumption | with_reducible refine ch_alloc ?_ _ | with_reducible refine Below.drew ?_ | with_reducible refine below_draws _ ?_ | (with_reducible refine Below.setCell ?_ ?_ _; rotate_left; focus (first | with_reducible exact Nat.le_refl _ | (simp; done) | (simp; omega) | (simp at *; omega))) | with_reducible refine ch_trans ?_ (by with_reducible assumption))))).mono ?_; rintro e w1 ⟨rfl, b1⟩)
      all_goals
        go_wp2
        go_round
        case rel => exact ⟨k + 1, by omega, by go_num, (by repeat (first | with_reducible exact Below.refl _ _ | with_reducible assumption | with_reducible refine ch_alloc ?_ _ | with_reducible refine Below.drew ?_ | with_reducible refine below_draws _ ?_ | (with_reducible refine Below.setCell ?_ ?_ _; rotate_left; focus (first | with_reducible exact Nat.le_refl _ | (simp; done) | (simp; omega) | (simp at *; omega))) | with_reducible refine ch_trans ?_ (by with_reducible assumption)))⟩
        case measure => simp [intOf]; omega
    · have hlti : (ts.length : Int) ≤ k := by omega
      go_wp2
      go_ret
      exact ⟨rfl, (by repeat (first | with_reducible exact Below.refl _ _ | with_reducible assumption | with_reducible refine ch_alloc ?_ _ | with_reducible refine Below.drew ?_ | with_reducible refine below_draws _ ?_ | (with_reducible refine Below.setCell ?_ ?_ _; rotate_left; focus (first | with_reducible exact Nat.le_refl _ | (simp; done) | (simp; omega) | (simp at *; omega))) | with_reducible refine ch_trans ?_ (by with_reducible assumption)))⟩
end Go.Proofs.YtiijahoheajppaaGreat
