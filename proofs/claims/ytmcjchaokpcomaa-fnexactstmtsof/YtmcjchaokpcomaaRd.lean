/- Records of a log in memory: the laws' size, copy and look. Records copied, opened, and lists of them. -/
import Derived.Test.YtmcjchaokpcomaaSt
namespace Go.Proofs.Ytmcjchaokpcomaa
open Go.ChangeShapes Go.WideShapes Go.ChangeAt Go.RowKit

/-- What a record holds. -/
structure Lc where
  kind : Int
  xid : Int
  st : Sc
abbrev Lc.cells (t : Lc) (k r c o : Value) : Array Value := #[.int .i64 t.kind, .int .i64 t.xid, .int .i64 t.st.kind, .string t.st.table, k, r, .int .i64 t.st.ddl.kind, .string t.st.ddl.table, c, o, .string t.st.ddl.name, .string t.st.ddl.to]
def RecV (w : World) (x : Array Value) (t : Lc) : Prop := ∃ k r c o, x = t.cells k r c o ∧ ValsV w k t.st.key ∧ ValsV w r t.st.row ∧ ColsV w c t.st.ddl.cols ∧ StrsV w o t.st.ddl.keys
theorem RecV.on {w w' : World} {x : Array Value} {t : Lc} (h : RecV w x t) (b : Below w.heap.size w w') : RecV w' x t := by
  obtain ⟨k, r, c, o, e, h1, h2, h3, h4⟩ := h; exact ⟨k, r, c, o, e, h1.on b, h2.on b, h3.on b, h4.on b⟩
theorem RecV.lit {w : World} {x : Array Value} {t : Lc} (h : RecV w x t) : ∃ ka kp ra rp ca cp oa op, x = #[.int .i64 t.kind, .int .i64 t.xid, .int .i64 t.st.kind, .string t.st.table, .slice ka t.st.key.length kp, .slice ra t.st.row.length rp, .int .i64 t.st.ddl.kind, .string t.st.ddl.table, .slice ca t.st.ddl.cols.length cp, .slice oa t.st.ddl.keys.length op, .string t.st.ddl.name, .string t.st.ddl.to] ∧ RecV w #[.int .i64 t.kind, .int .i64 t.xid, .int .i64 t.st.kind, .string t.st.table, .slice ka t.st.key.length kp, .slice ra t.st.row.length rp, .int .i64 t.st.ddl.kind, .string t.st.ddl.table, .slice ca t.st.ddl.cols.length cp, .slice oa t.st.ddl.keys.length op, .string t.st.ddl.name, .string t.st.ddl.to] t ∧ StmtV w #[.int .i64 t.st.kind, .string t.st.table, .slice ka t.st.key.length kp, .slice ra t.st.row.length rp, .int .i64 t.st.ddl.kind, .string t.st.ddl.table, .slice ca t.st.ddl.cols.length cp, .slice oa t.st.ddl.keys.length op, .string t.st.ddl.name, .string t.st.ddl.to] t.st := by
  obtain ⟨k, r, c, o, rfl, h1, h2, h3, h4⟩ := h
  obtain ⟨a, p, rfl, _⟩ := h1.lit
  obtain ⟨b, q, rfl, _⟩ := h2.lit
  obtain ⟨c, r, rfl, h3'⟩ := id h3
  obtain ⟨d, t, rfl, h4'⟩ := id h4
  exact ⟨a, p, b, q, c, r, d, t, rfl, ⟨_, _, _, _, rfl, h1, h2, h3, h4⟩, ⟨_, _, _, _, rfl, h1, h2, h3, h4⟩⟩
theorem RecV.size {w : World} {x : Array Value} {t : Lc} (h : RecV w x t) : x.size = 12 := by
  obtain ⟨k, r, c, o, rfl, _⟩ := h; rfl
theorem RecV.of {w : World} {t : Lc} {k r c o : Value} (h : StmtV w #[.int .i64 t.st.kind, .string t.st.table, k, r, .int .i64 t.st.ddl.kind, .string t.st.ddl.table, c, o, .string t.st.ddl.name, .string t.st.ddl.to] t.st) : RecV w #[.int .i64 t.kind, .int .i64 t.xid, .int .i64 t.st.kind, .string t.st.table, k, r, .int .i64 t.st.ddl.kind, .string t.st.ddl.table, c, o, .string t.st.ddl.name, .string t.st.ddl.to] t := by
  obtain ⟨k', r', c', o', e, h1, h2, h3, h4⟩ := h
  simp at e
  obtain ⟨rfl, rfl, rfl, rfl⟩ := e
  exact ⟨_, _, _, _, rfl, h1, h2, h3, h4⟩
def Lc.fit (t : Lc) : Prop := t.st.fit
def Lc.few (t : Lc) : Prop := t.st.few
theorem Loc.twelve {w : World} {b : Nat} {a0 a1 a2 a3 a4 a5 a6 a7 a8 a9 a10 a11 : Value} (h : Loc w b #[a0, a1, a2, a3, a4, a5, a6, a7, a8, a9, a10, a11]) : w.cell? ⟨b, 0, none⟩ = some a0 ∧ w.cell? ⟨b, 1, none⟩ = some a1 ∧ w.cell? ⟨b, 2, none⟩ = some a2 ∧ w.cell? ⟨b, 3, none⟩ = some a3 ∧ w.cell? ⟨b, 4, none⟩ = some a4 ∧ w.cell? ⟨b, 5, none⟩ = some a5 ∧ w.cell? ⟨b, 6, none⟩ = some a6 ∧ w.cell? ⟨b, 7, none⟩ = some a7 ∧ w.cell? ⟨b, 8, none⟩ = some a8 ∧ w.cell? ⟨b, 9, none⟩ = some a9 ∧ w.cell? ⟨b, 10, none⟩ = some a10 ∧ w.cell? ⟨b, 11, none⟩ = some a11 :=
  ⟨h 0 (by simp), h 1 (by simp), h 2 (by simp), h 3 (by simp), h 4 (by simp), h 5 (by simp), h 6 (by simp), h 7 (by simp), h 8 (by simp), h 9 (by simp), h 10 (by simp), h 11 (by simp)⟩

set_option maxRecDepth 100000 in
set_option maxHeartbeats 1000000 in
/-- laws.szRec -/
theorem szRec_any (x : Array Value) (t : Lc) (l : Int) (w : World) (hx : RecV w x t) (hf : t.fit) (h0 : 0 ≤ l) (h1 : l ≤ 1048576) :
    Calls Try.prog 7 #[.agg x, .int .i64 l] w fun e w' => ∃ r : Int, e = .returned (.int .i64 r) ∧ Below w.heap.size w w' ∧ (r = -1 ∨ (0 ≤ r ∧ r ≤ l ∧ t.few)) := by
  obtain ⟨ka, kp, ra, rp, ca, cp, oa, op, rfl, _, hs⟩ := hx.lit
  have HS : Hid (StmtV w #[.int .i64 t.st.kind, .string t.st.table, .slice ka t.st.key.length kp, .slice ra t.st.row.length rp, .int .i64 t.st.ddl.kind, .string t.st.ddl.table, .slice ca t.st.ddl.cols.length cp, .slice oa t.st.ddl.keys.length op, .string t.st.ddl.name, .string t.st.ddl.to] t.st) := hs
  have HF : Hid t.st.fit := hf
  clear hs hx hf
  go_enter Try.func7, Try.ntmps7
  go_wp2_with fail
  refine (szStmt_any _ t.st l _ (HS.out.on (by repeat (first | with_reducible exact Below.refl _ _ | with_reducible assumption | with_reducible refine ch_alloc ?_ _ | with_reducible refine Below.drew ?_ | with_reducible refine below_draws _ ?_ | (with_reducible refine Below.setCell ?_ ?_ _; rotate_left; focus (first | with_reducible exact Nat.le_refl _ | (simp; done) | (simp; omega) | (simp at *; omega))) | with_reducible refine ch_trans ?_ (by with_reducible assumption)))) HF.out h0 h1).mono ?_
  rintro e w1 ⟨r, rfl, b1, hr⟩
  rcases hr with rfl | ⟨r0, r1, r2⟩
  · go_wp2
    go_ret
    exact ⟨_, rfl, (by repeat (first | with_reducible exact Below.refl _ _ | with_reducible assumption | with_reducible refine ch_alloc ?_ _ | with_reducible refine Below.drew ?_ | with_reducible refine below_draws _ ?_ | (with_reducible refine Below.setCell ?_ ?_ _; rotate_left; focus (first | with_reducible exact Nat.le_refl _ | (simp; done) | (simp; omega) | (simp at *; omega))) | with_reducible refine ch_trans ?_ (by with_reducible assumption))), Or.inl rfl⟩
  · have HR : Hid t.few := r2
    clear r2
    go_wp2
    go_ret
    exact ⟨_, rfl, (by repeat (first | with_reducible exact Below.refl _ _ | with_reducible assumption | with_reducible refine ch_alloc ?_ _ | with_reducible refine Below.drew ?_ | with_reducible refine below_draws _ ?_ | (with_reducible refine Below.setCell ?_ ?_ _; rotate_left; focus (first | with_reducible exact Nat.le_refl _ | (simp; done) | (simp; omega) | (simp at *; omega))) | with_reducible refine ch_trans ?_ (by with_reducible assumption))), Or.inr ⟨r0, r1, HR.out⟩⟩

set_option maxRecDepth 100000 in
set_option maxHeartbeats 1000000 in
/-- laws.eqRec -/
theorem eqRec_same (x y : Array Value) (t : Lc) (w : World) (hx : RecV w x t) (hy : RecV w y t) : Calls Try.prog 11 #[.agg x, .agg y] w fun e w' => e = .returned (.bool true) ∧ Below w.heap.size w w' := by
  obtain ⟨ka, kp, ra, rp, ca, cp, oa, op, rfl, _, hs⟩ := hx.lit
  obtain ⟨ka1, kp1, ra1, rp1, ca1, cp1, oa1, op1, rfl, _, hs1⟩ := hy.lit
  have HS : Hid (StmtV w #[.int .i64 t.st.kind, .string t.st.table, .slice ka t.st.key.length kp, .slice ra t.st.row.length rp, .int .i64 t.st.ddl.kind, .string t.st.ddl.table, .slice ca t.st.ddl.cols.length cp, .slice oa t.st.ddl.keys.length op, .string t.st.ddl.name, .string t.st.ddl.to] t.st) := hs
  have HS1 : Hid (StmtV w #[.int .i64 t.st.kind, .string t.st.table, .slice ka1 t.st.key.length kp1, .slice ra1 t.st.row.length rp1, .int .i64 t.st.ddl.kind, .string t.st.ddl.table, .slice ca1 t.st.ddl.cols.length cp1, .slice oa1 t.st.ddl.keys.length op1, .string t.st.ddl.name, .string t.st.ddl.to] t.st) := hs1
  clear hs hs1 hx hy
  go_enter Try.func11, Try.ntmps11
  go_wp2_with fail
  refine (eqStmt_same _ _ t.st _ (HS.out.on (by repeat (first | with_reducible exact Below.refl _ _ | with_reducible assumption | with_reducible refine ch_alloc ?_ _ | with_reducible refine Below.drew ?_ | with_reducible refine below_draws _ ?_ | (with_reducible refine Below.setCell ?_ ?_ _; rotate_left; focus (first | with_reducible exact Nat.le_refl _ | (simp; done) | (simp; omega) | (simp at *; omega))) | with_reducible refine ch_trans ?_ (by with_reducible assumption)))) (HS1.out.on (by repeat (first | with_reducible exact Below.refl _ _ | with_reducible assumption | with_reducible refine ch_alloc ?_ _ | with_reducible refine Below.drew ?_ | with_reducible refine below_draws _ ?_ | (with_reducible refine Below.setCell ?_ ?_ _; rotate_left; focus (first | with_reducible exact Nat.le_refl _ | (simp; done) | (simp; omega) | (simp at *; omega))) | with_reducible refine ch_trans ?_ (by with_reducible assumption))))).mono ?_
  rintro e w1 ⟨rfl, b1⟩
  go_wp2
  go_ret
  exact ⟨rfl, (by repeat (first | with_reducible exact Below.refl _ _ | with_reducible assumption | with_reducible refine ch_alloc ?_ _ | with_reducible refine Below.drew ?_ | with_reducible refine below_draws _ ?_ | (with_reducible refine Below.setCell ?_ ?_ _; rotate_left; focus (first | with_reducible exact Nat.le_refl _ | (simp; done) | (simp; omega) | (simp at *; omega))) | with_reducible refine ch_trans ?_ (by with_reducible assumption)))⟩
end Go.Proofs.Ytmcjchaokpcomaa

namespace Go.Proofs.Ytmcjchaokpcomaa
open Go.ChangeShapes Go.WideShapes Go.ChangeAt Go.RowKit

set_option maxRecDepth 100000 in
set_option maxHeartbeats 2000000 in
/-- laws.toRec -/
theorem toRec_any (x : Array Value) (t : Lc) (w : World) (hx : RecV w x t) (hf : t.few) :
    Calls Try.prog 9 #[.agg x] w fun e w' => ∃ y, e = .returned (.agg y) ∧ Below w.heap.size w w' ∧ Firm w.heap.size (fun u => RecV u y t) w' := by
  obtain ⟨ka, kp, ra, rp, ca, cp, oa, op, rfl, _, hs⟩ := hx.lit
  have HS : Hid (StmtV w #[.int .i64 t.st.kind, .string t.st.table, .slice ka t.st.key.length kp, .slice ra t.st.row.length rp, .int .i64 t.st.ddl.kind, .string t.st.ddl.table, .slice ca t.st.ddl.cols.length cp, .slice oa t.st.ddl.keys.length op, .string t.st.ddl.name, .string t.st.ddl.to] t.st) := hs
  have HF : Hid t.st.few := hf
  clear hs hx hf
  go_enter Try.func9, Try.ntmps9
  go_wp2_with fail
  have hb0 : Below w.heap.size w (((w.alloc (.cells #[.int .i64 t.kind, .int .i64 t.xid, .int .i64 t.st.kind, .string t.st.table, .slice ka t.st.key.length kp, .slice ra t.st.row.length rp, .int .i64 t.st.ddl.kind, .string t.st.ddl.table, .slice ca t.st.ddl.cols.length cp, .slice oa t.st.ddl.keys.length op, .string t.st.ddl.name, .string t.st.ddl.to] 32)).alloc (.cells #[.int .i64 0, .int .i64 0, .int .i64 0, .string { data := #[] }, .slice none 0 0, .slice none 0 0, .int .i64 0, .string { data := #[] }, .slice none 0 0, .slice none 0 0, .string { data := #[] }, .string { data := #[] }] 44)).alloc (.cells #[.int .i64 t.kind, .int .i64 t.xid, .int .i64 0, .string { data := #[] }, .slice none 0 0, .slice none 0 0, .int .i64 0, .string { data := #[] }, .slice none 0 0, .slice none 0 0, .string { data := #[] }, .string { data := #[] }] 44)) := (by repeat (first | with_reducible exact Below.refl _ _ | with_reducible assumption | with_reducible refine ch_alloc ?_ _ | with_reducible refine Below.drew ?_ | with_reducible refine below_draws _ ?_ | (with_reducible refine Below.setCell ?_ ?_ _; rotate_left; focus (first | with_reducible exact Nat.le_refl _ | (simp; done) | (simp; omega) | (simp at *; omega))) | with_reducible refine ch_trans ?_ (by with_reducible assumption)))
  have HQ := (Own.at (w.alloc (.cells #[.int .i64 t.kind, .int .i64 t.xid, .int .i64 t.st.kind, .string t.st.table, .slice ka t.st.key.length kp, .slice ra t.st.row.length rp, .int .i64 t.st.ddl.kind, .string t.st.ddl.table, .slice ca t.st.ddl.cols.length cp, .slice oa t.st.ddl.keys.length op, .string t.st.ddl.name, .string t.st.ddl.to] 32)) 44 #[.int .i64 0, .int .i64 0, .int .i64 0, .string { data := #[] }, .slice none 0 0, .slice none 0 0, .int .i64 0, .string { data := #[] }, .slice none 0 0, .slice none 0 0, .string { data := #[] }, .string { data := #[] }] (n := w.heap.size + 1) (by simp)).on (ch_alloc (Below.refl _ _) (.cells #[.int .i64 t.kind, .int .i64 t.xid, .int .i64 0, .string { data := #[] }, .slice none 0 0, .slice none 0 0, .int .i64 0, .string { data := #[] }, .slice none 0 0, .slice none 0 0, .string { data := #[] }, .string { data := #[] }] 44))
  have HO := Own.at ((w.alloc (.cells #[.int .i64 t.kind, .int .i64 t.xid, .int .i64 t.st.kind, .string t.st.table, .slice ka t.st.key.length kp, .slice ra t.st.row.length rp, .int .i64 t.st.ddl.kind, .string t.st.ddl.table, .slice ca t.st.ddl.cols.length cp, .slice oa t.st.ddl.keys.length op, .string t.st.ddl.name, .string t.st.ddl.to] 32)).alloc (.cells #[.int .i64 0, .int .i64 0, .int .i64 0, .string { data := #[] }, .slice none 0 0, .slice none 0 0, .int .i64 0, .string { data := #[] }, .slice none 0 0, .slice none 0 0, .string { data := #[] }, .string { data := #[] }] 44)) 44 #[.int .i64 t.kind, .int .i64 t.xid, .int .i64 0, .string { data := #[] }, .slice none 0 0, .slice none 0 0, .int .i64 0, .string { data := #[] }, .slice none 0 0, .slice none 0 0, .string { data := #[] }, .string { data := #[] }] (n := w.heap.size + 1 + 1) (by simp)
  have hs0 : (((w.alloc (.cells #[.int .i64 t.kind, .int .i64 t.xid, .int .i64 t.st.kind, .string t.st.table, .slice ka t.st.key.length kp, .slice ra t.st.row.length rp, .int .i64 t.st.ddl.kind, .string t.st.ddl.table, .slice ca t.st.ddl.cols.length cp, .slice oa t.st.ddl.keys.length op, .string t.st.ddl.name, .string t.st.ddl.to] 32)).alloc (.cells #[.int .i64 0, .int .i64 0, .int .i64 0, .string { data := #[] }, .slice none 0 0, .slice none 0 0, .int .i64 0, .string { data := #[] }, .slice none 0 0, .slice none 0 0, .string { data := #[] }, .string { data := #[] }] 44)).alloc (.cells #[.int .i64 t.kind, .int .i64 t.xid, .int .i64 0, .string { data := #[] }, .slice none 0 0, .slice none 0 0, .int .i64 0, .string { data := #[] }, .slice none 0 0, .slice none 0 0, .string { data := #[] }, .string { data := #[] }] 44)).heap.size = w.heap.size + 1 + 1 + 1 := by simp
  generalize (((w.alloc (.cells #[.int .i64 t.kind, .int .i64 t.xid, .int .i64 t.st.kind, .string t.st.table, .slice ka t.st.key.length kp, .slice ra t.st.row.length rp, .int .i64 t.st.ddl.kind, .string t.st.ddl.table, .slice ca t.st.ddl.cols.length cp, .slice oa t.st.ddl.keys.length op, .string t.st.ddl.name, .string t.st.ddl.to] 32)).alloc (.cells #[.int .i64 0, .int .i64 0, .int .i64 0, .string { data := #[] }, .slice none 0 0, .slice none 0 0, .int .i64 0, .string { data := #[] }, .slice none 0 0, .slice none 0 0, .string { data := #[] }, .string { data := #[] }] 44)).alloc (.cells #[.int .i64 t.kind, .int .i64 t.xid, .int .i64 0, .string { data := #[] }, .slice none 0 0, .slice none 0 0, .int .i64 0, .string { data := #[] }, .slice none 0 0, .slice none 0 0, .string { data := #[] }, .string { data := #[] }] 44)) = u0 at hb0 HQ HO hs0 ⊢
  refine (toStmt_any _ t.st _ (HS.out.on hb0) HF.out).mono ?_
  rintro e w1 ⟨y, rfl, b1, hy⟩
  obtain ⟨ka1, kp1, ra1, rp1, ca1, cp1, oa1, op1, e1, _⟩ := hy.out.lit
  simp only [Sc.cells] at e1
  subst e1
  have HF6 : Hid (Firm (w.heap.size + 1 + 1 + 1) (fun u => RecV u #[.int .i64 t.kind, .int .i64 t.xid, .int .i64 t.st.kind, .string t.st.table, .slice ka1 t.st.key.length kp1, .slice ra1 t.st.row.length rp1, .int .i64 t.st.ddl.kind, .string t.st.ddl.table, .slice ca1 t.st.ddl.cols.length cp1, .slice oa1 t.st.ddl.keys.length op1, .string t.st.ddl.name, .string t.st.ddl.to] t) w1) := (hy.mono (by omega)).imp fun u hu => RecV.of hu
  have hb1 := ch_trans hb0 b1
  have HO1 := HO.on b1
  have HQ1 := HQ.on b1
  clear hy b1 HO HQ hb0 hs0
  obtain ⟨d0, d1, d2, d3, d4, d5, d6, d7, d8, d9, d10, d11⟩ := HO1.loc.twelve
  obtain ⟨g0, g1, g2, g3, g4, g5, g6, g7, g8, g9, g10, g11⟩ := HQ1.loc.twelve
  have f2 := HO1.frozen 2
  have f3 := HO1.frozen 3
  have f4 := HO1.frozen 4
  have f5 := HO1.frozen 5
  have f6 := HO1.frozen 6
  have f7 := HO1.frozen 7
  have f8 := HO1.frozen 8
  have f9 := HO1.frozen 9
  have f10 := HO1.frozen 10
  have f11 := HO1.frozen 11
  have i0 := HQ1.frozen 0
  have i1 := HQ1.frozen 1
  have i2 := HQ1.frozen 2
  have i3 := HQ1.frozen 3
  have i4 := HQ1.frozen 4
  have i5 := HQ1.frozen 5
  have i6 := HQ1.frozen 6
  have i7 := HQ1.frozen 7
  have i8 := HQ1.frozen 8
  have i9 := HQ1.frozen 9
  have i10 := HQ1.frozen 10
  have i11 := HQ1.frozen 11
  go_wp2
  have HQ4 : Own ((((((((((((((((((((((w1.setCell ⟨w.heap.size + 1 + 1, 2, none⟩ (.int .i64 t.st.kind)).setCell ⟨w.heap.size + 1 + 1, 3, none⟩ (.string t.st.table)).setCell ⟨w.heap.size + 1 + 1, 4, none⟩ (.slice ka1 t.st.key.length kp1)).setCell ⟨w.heap.size + 1 + 1, 5, none⟩ (.slice ra1 t.st.row.length rp1)).setCell ⟨w.heap.size + 1 + 1, 6, none⟩ (.int .i64 t.st.ddl.kind)).setCell ⟨w.heap.size + 1 + 1, 7, none⟩ (.string t.st.ddl.table)).setCell ⟨w.heap.size + 1 + 1, 8, none⟩ (.slice ca1 t.st.ddl.cols.length cp1)).setCell ⟨w.heap.size + 1 + 1, 9, none⟩ (.slice oa1 t.st.ddl.keys.length op1)).setCell ⟨w.heap.size + 1 + 1, 10, none⟩ (.string t.st.ddl.name)).setCell ⟨w.heap.size + 1 + 1, 11, none⟩ (.string t.st.ddl.to)).setCell ⟨w.heap.size + 1, 0, none⟩ (.int .i64 t.kind)).setCell ⟨w.heap.size + 1, 1, none⟩ (.int .i64 t.xid)).setCell ⟨w.heap.size + 1, 2, none⟩ (.int .i64 t.st.kind)).setCell ⟨w.heap.size + 1, 3, none⟩ (.string t.st.table)).setCell ⟨w.heap.size + 1, 4, none⟩ (.slice ka1 t.st.key.length kp1)).setCell ⟨w.heap.size + 1, 5, none⟩ (.slice ra1 t.st.row.length rp1)).setCell ⟨w.heap.size + 1, 6, none⟩ (.int .i64 t.st.ddl.kind)).setCell ⟨w.heap.size + 1, 7, none⟩ (.string t.st.ddl.table)).setCell ⟨w.heap.size + 1, 8, none⟩ (.slice ca1 t.st.ddl.cols.length cp1)).setCell ⟨w.heap.size + 1, 9, none⟩ (.slice oa1 t.st.ddl.keys.length op1)).setCell ⟨w.heap.size + 1, 10, none⟩ (.string t.st.ddl.name)).setCell ⟨w.heap.size + 1, 11, none⟩ (.string t.st.ddl.to)) _ _ #[.int .i64 t.kind, .int .i64 t.xid, .int .i64 t.st.kind, .string t.st.table, .slice ka1 t.st.key.length kp1, .slice ra1 t.st.row.length rp1, .int .i64 t.st.ddl.kind, .string t.st.ddl.table, .slice ca1 t.st.ddl.cols.length cp1, .slice oa1 t.st.ddl.keys.length op1, .string t.st.ddl.name, .string t.st.ddl.to] := (Own.past (c := w.heap.size + 1 + 1) (by omega) [.int .i64 t.st.kind, .string t.st.table, .slice ka1 t.st.key.length kp1, .slice ra1 t.st.row.length rp1, .int .i64 t.st.ddl.kind, .string t.st.ddl.table, .slice ca1 t.st.ddl.cols.length cp1, .slice oa1 t.st.ddl.keys.length op1, .string t.st.ddl.name, .string t.st.ddl.to] _ 2 HQ1).fill (old := [_, _, _, _, _, _, _, _, _, _, _, _]) [.int .i64 t.kind, .int .i64 t.xid, .int .i64 t.st.kind, .string t.st.table, .slice ka1 t.st.key.length kp1, .slice ra1 t.st.row.length rp1, .int .i64 t.st.ddl.kind, .string t.st.ddl.table, .slice ca1 t.st.ddl.cols.length cp1, .slice oa1 t.st.ddl.keys.length op1, .string t.st.ddl.name, .string t.st.ddl.to] rfl
  have HF7 : Hid (Firm (w.heap.size + 1 + 1 + 1) (fun u => RecV u #[.int .i64 t.kind, .int .i64 t.xid, .int .i64 t.st.kind, .string t.st.table, .slice ka1 t.st.key.length kp1, .slice ra1 t.st.row.length rp1, .int .i64 t.st.ddl.kind, .string t.st.ddl.table, .slice ca1 t.st.ddl.cols.length cp1, .slice oa1 t.st.ddl.keys.length op1, .string t.st.ddl.name, .string t.st.ddl.to] t) ((((((((((((((((((((((w1.setCell ⟨w.heap.size + 1 + 1, 2, none⟩ (.int .i64 t.st.kind)).setCell ⟨w.heap.size + 1 + 1, 3, none⟩ (.string t.st.table)).setCell ⟨w.heap.size + 1 + 1, 4, none⟩ (.slice ka1 t.st.key.length kp1)).setCell ⟨w.heap.size + 1 + 1, 5, none⟩ (.slice ra1 t.st.row.length rp1)).setCell ⟨w.heap.size + 1 + 1, 6, none⟩ (.int .i64 t.st.ddl.kind)).setCell ⟨w.heap.size + 1 + 1, 7, none⟩ (.string t.st.ddl.table)).setCell ⟨w.heap.size + 1 + 1, 8, none⟩ (.slice ca1 t.st.ddl.cols.length cp1)).setCell ⟨w.heap.size + 1 + 1, 9, none⟩ (.slice oa1 t.st.ddl.keys.length op1)).setCell ⟨w.heap.size + 1 + 1, 10, none⟩ (.string t.st.ddl.name)).setCell ⟨w.heap.size + 1 + 1, 11, none⟩ (.string t.st.ddl.to)).setCell ⟨w.heap.size + 1, 0, none⟩ (.int .i64 t.kind)).setCell ⟨w.heap.size + 1, 1, none⟩ (.int .i64 t.xid)).setCell ⟨w.heap.size + 1, 2, none⟩ (.int .i64 t.st.kind)).setCell ⟨w.heap.size + 1, 3, none⟩ (.string t.st.table)).setCell ⟨w.heap.size + 1, 4, none⟩ (.slice ka1 t.st.key.length kp1)).setCell ⟨w.heap.size + 1, 5, none⟩ (.slice ra1 t.st.row.length rp1)).setCell ⟨w.heap.size + 1, 6, none⟩ (.int .i64 t.st.ddl.kind)).setCell ⟨w.heap.size + 1, 7, none⟩ (.string t.st.ddl.table)).setCell ⟨w.heap.size + 1, 8, none⟩ (.slice ca1 t.st.ddl.cols.length cp1)).setCell ⟨w.heap.size + 1, 9, none⟩ (.slice oa1 t.st.ddl.keys.length op1)).setCell ⟨w.heap.size + 1, 10, none⟩ (.string t.st.ddl.name)).setCell ⟨w.heap.size + 1, 11, none⟩ (.string t.st.ddl.to))) := Firm.stores (b := w.heap.size + 1) (by omega) [.int .i64 t.kind, .int .i64 t.xid, .int .i64 t.st.kind, .string t.st.table, .slice ka1 t.st.key.length kp1, .slice ra1 t.st.row.length rp1, .int .i64 t.st.ddl.kind, .string t.st.ddl.table, .slice ca1 t.st.ddl.cols.length cp1, .slice oa1 t.st.ddl.keys.length op1, .string t.st.ddl.name, .string t.st.ddl.to] _ 0 (Firm.stores (b := w.heap.size + 1 + 1) (by omega) [.int .i64 t.st.kind, .string t.st.table, .slice ka1 t.st.key.length kp1, .slice ra1 t.st.row.length rp1, .int .i64 t.st.ddl.kind, .string t.st.ddl.table, .slice ca1 t.st.ddl.cols.length cp1, .slice oa1 t.st.ddl.keys.length op1, .string t.st.ddl.name, .string t.st.ddl.to] _ 2 HF6.out)
  have HB : Hid (Below w.heap.size w ((((((((((((((((((((((w1.setCell ⟨w.heap.size + 1 + 1, 2, none⟩ (.int .i64 t.st.kind)).setCell ⟨w.heap.size + 1 + 1, 3, none⟩ (.string t.st.table)).setCell ⟨w.heap.size + 1 + 1, 4, none⟩ (.slice ka1 t.st.key.length kp1)).setCell ⟨w.heap.size + 1 + 1, 5, none⟩ (.slice ra1 t.st.row.length rp1)).setCell ⟨w.heap.size + 1 + 1, 6, none⟩ (.int .i64 t.st.ddl.kind)).setCell ⟨w.heap.size + 1 + 1, 7, none⟩ (.string t.st.ddl.table)).setCell ⟨w.heap.size + 1 + 1, 8, none⟩ (.slice ca1 t.st.ddl.cols.length cp1)).setCell ⟨w.heap.size + 1 + 1, 9, none⟩ (.slice oa1 t.st.ddl.keys.length op1)).setCell ⟨w.heap.size + 1 + 1, 10, none⟩ (.string t.st.ddl.name)).setCell ⟨w.heap.size + 1 + 1, 11, none⟩ (.string t.st.ddl.to)).setCell ⟨w.heap.size + 1, 0, none⟩ (.int .i64 t.kind)).setCell ⟨w.heap.size + 1, 1, none⟩ (.int .i64 t.xid)).setCell ⟨w.heap.size + 1, 2, none⟩ (.int .i64 t.st.kind)).setCell ⟨w.heap.size + 1, 3, none⟩ (.string t.st.table)).setCell ⟨w.heap.size + 1, 4, none⟩ (.slice ka1 t.st.key.length kp1)).setCell ⟨w.heap.size + 1, 5, none⟩ (.slice ra1 t.st.row.length rp1)).setCell ⟨w.heap.size + 1, 6, none⟩ (.int .i64 t.st.ddl.kind)).setCell ⟨w.heap.size + 1, 7, none⟩ (.string t.st.ddl.table)).setCell ⟨w.heap.size + 1, 8, none⟩ (.slice ca1 t.st.ddl.cols.length cp1)).setCell ⟨w.heap.size + 1, 9, none⟩ (.slice oa1 t.st.ddl.keys.length op1)).setCell ⟨w.heap.size + 1, 10, none⟩ (.string t.st.ddl.name)).setCell ⟨w.heap.size + 1, 11, none⟩ (.string t.st.ddl.to))) := by
    show Below _ _ _
    exact stores_below (b := w.heap.size + 1) (by omega) [.int .i64 t.kind, .int .i64 t.xid, .int .i64 t.st.kind, .string t.st.table, .slice ka1 t.st.key.length kp1, .slice ra1 t.st.row.length rp1, .int .i64 t.st.ddl.kind, .string t.st.ddl.table, .slice ca1 t.st.ddl.cols.length cp1, .slice oa1 t.st.ddl.keys.length op1, .string t.st.ddl.name, .string t.st.ddl.to] _ 0 (stores_below (b := w.heap.size + 1 + 1) (by omega) [.int .i64 t.st.kind, .string t.st.table, .slice ka1 t.st.key.length kp1, .slice ra1 t.st.row.length rp1, .int .i64 t.st.ddl.kind, .string t.st.ddl.table, .slice ca1 t.st.ddl.cols.length cp1, .slice oa1 t.st.ddl.keys.length op1, .string t.st.ddl.name, .string t.st.ddl.to] _ 2 hb1)
  generalize ((((((((((((((((((((((w1.setCell ⟨w.heap.size + 1 + 1, 2, none⟩ (.int .i64 t.st.kind)).setCell ⟨w.heap.size + 1 + 1, 3, none⟩ (.string t.st.table)).setCell ⟨w.heap.size + 1 + 1, 4, none⟩ (.slice ka1 t.st.key.length kp1)).setCell ⟨w.heap.size + 1 + 1, 5, none⟩ (.slice ra1 t.st.row.length rp1)).setCell ⟨w.heap.size + 1 + 1, 6, none⟩ (.int .i64 t.st.ddl.kind)).setCell ⟨w.heap.size + 1 + 1, 7, none⟩ (.string t.st.ddl.table)).setCell ⟨w.heap.size + 1 + 1, 8, none⟩ (.slice ca1 t.st.ddl.cols.length cp1)).setCell ⟨w.heap.size + 1 + 1, 9, none⟩ (.slice oa1 t.st.ddl.keys.length op1)).setCell ⟨w.heap.size + 1 + 1, 10, none⟩ (.string t.st.ddl.name)).setCell ⟨w.heap.size + 1 + 1, 11, none⟩ (.string t.st.ddl.to)).setCell ⟨w.heap.size + 1, 0, none⟩ (.int .i64 t.kind)).setCell ⟨w.heap.size + 1, 1, none⟩ (.int .i64 t.xid)).setCell ⟨w.heap.size + 1, 2, none⟩ (.int .i64 t.st.kind)).setCell ⟨w.heap.size + 1, 3, none⟩ (.string t.st.table)).setCell ⟨w.heap.size + 1, 4, none⟩ (.slice ka1 t.st.key.length kp1)).setCell ⟨w.heap.size + 1, 5, none⟩ (.slice ra1 t.st.row.length rp1)).setCell ⟨w.heap.size + 1, 6, none⟩ (.int .i64 t.st.ddl.kind)).setCell ⟨w.heap.size + 1, 7, none⟩ (.string t.st.ddl.table)).setCell ⟨w.heap.size + 1, 8, none⟩ (.slice ca1 t.st.ddl.cols.length cp1)).setCell ⟨w.heap.size + 1, 9, none⟩ (.slice oa1 t.st.ddl.keys.length op1)).setCell ⟨w.heap.size + 1, 10, none⟩ (.string t.st.ddl.name)).setCell ⟨w.heap.size + 1, 11, none⟩ (.string t.st.ddl.to)) = W at HQ4 HB HF7 ⊢
  obtain ⟨e0, e1, e2, e3, e4, e5, e6, e7, e8, e9, e10, e11⟩ := HQ4.loc.twelve
  exact bodyPost_ret (v := .agg #[.int .i64 t.kind, .int .i64 t.xid, .int .i64 t.st.kind, .string t.st.table, .slice ka1 t.st.key.length kp1, .slice ra1 t.st.row.length rp1, .int .i64 t.st.ddl.kind, .string t.st.ddl.table, .slice ca1 t.st.ddl.cols.length cp1, .slice oa1 t.st.ddl.keys.length op1, .string t.st.ddl.name, .string t.st.ddl.to]) (by simp [results, Try.results9, go_sem, e0, e1, e2, e3, e4, e5, e6, e7, e8, e9, e10, e11]) rfl ⟨_, rfl, HB.out, HF7.out.mono (by omega)⟩
end Go.Proofs.Ytmcjchaokpcomaa
