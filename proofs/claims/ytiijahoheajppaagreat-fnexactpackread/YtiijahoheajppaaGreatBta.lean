/- The laws' copies with their shape: parts of batches, lists of them. Batches in memory: the laws' size, look and copy. -/
import Derived.Test.YtiijahoheajppaaGreatPta
namespace Go.Proofs.YtiijahoheajppaaGreat
open Go.ChangeShapes Go.WideShapes Go.ChangeAt Go.RowKit

def PartN (B : Nat) (w : World) (x : Array Value) (t : Ptc) : Prop := ∃ k r c o y z, x = t.cells k r c o y z ∧ ValsN B w k t.st.key ∧ ValsN B w r t.st.row ∧ ColsN B w c t.st.ddl.cols ∧ StrsN B w o t.st.ddl.keys ∧ StrsN B w y t.cols ∧ StrsN B w z t.keys
theorem PartN.part {B : Nat} {w : World} {x : Array Value} {s : Ptc} (h : PartN B w x s) : PartV w x s := by
  obtain ⟨k, r, c, o, y, z, e, h1, h2, h3, h4, h5, h6⟩ := h; exact ⟨k, r, c, o, y, z, e, h1.1, h2.1, h3.1, h4.1, h5.1, h6.1⟩
theorem PartN.of {B : Nat} {w : World} {t : Ptc} {k r c o y z : Value} (h : StmtN B w #[.int .i64 t.st.kind, .string t.st.table, k, r, .int .i64 t.st.ddl.kind, .string t.st.ddl.table, c, o, .string t.st.ddl.name, .string t.st.ddl.to] t.st) (hy : StrsN B w y t.cols) (hz : StrsN B w z t.keys) : PartN B w #[.int .i64 t.st.kind, .string t.st.table, k, r, .int .i64 t.st.ddl.kind, .string t.st.ddl.table, c, o, .string t.st.ddl.name, .string t.st.ddl.to, y, z] t := by
  obtain ⟨k', r', c', o', e, h1, h2, h3, h4⟩ := h
  simp at e
  obtain ⟨rfl, rfl, rfl, rfl⟩ := e
  exact ⟨_, _, _, _, _, _, rfl, h1, h2, h3, h4, hy, hz⟩

theorem own_part {b : Nat} {T : TypeId} : ∀ (vs pre old post : List Value) (w : World), old.length = vs.length → Own w b T (pre ++ (old ++ post)).toArray → Own (stores w b pre.length vs) b T (pre ++ (vs ++ post)).toArray
  | [], pre, old, post, w, hl, h => by
    have : old = [] := List.length_eq_zero_iff.1 hl
    subst this; exact h
  | v :: r, pre, [], post, w, hl, h => by simp at hl
  | v :: r, pre, o :: os, post, w, hl, h => by
    have h1 := h.set pre.length v
    have e : (pre ++ (o :: os ++ post)).toArray.setIfInBounds pre.length v = ((pre ++ [v]) ++ (os ++ post)).toArray := by
      apply Array.toList_inj.1
      simp
    rw [e] at h1
    have := own_part r (pre ++ [v]) os post _ (by simpa using hl) h1
    simpa [stores] using this
theorem Loc.past {b c : Nat} {cells : Array Value} (hc : b ≠ c) : ∀ (vs : List Value) (w : World) (o : Nat), Loc w b cells → Loc (stores w c o vs) b cells
  | [], _, _, h => h
  | v :: r, _, o, h => Loc.past hc r _ (o + 1) (h.other (p := ⟨c, o, none⟩) hc v)
theorem stores_size (c : Nat) : ∀ (vs : List Value) (w : World) (o : Nat), (stores w c o vs).heap.size = w.heap.size
  | [], _, _ => rfl
  | v :: r, w, o => by show (stores (w.setCell ⟨c, o, none⟩ v) c (o + 1) r).heap.size = _; rw [stores_size c r]; simp

set_option maxRecDepth 100000 in
set_option maxHeartbeats 4000000 in
/-- laws.toPart -/
theorem toPart_full (x : Array Value) (t : Ptc) (w : World) (hx : PartV w x t) (hf : t.few) :
    Calls Tryz.prog 67 #[.agg x] w fun e w' => ∃ y, e = .returned (.agg y) ∧ Below w.heap.size w w' ∧ Firm w.heap.size (fun u => PartN w.heap.size u y t) w' := by
  obtain ⟨ka, kp, ra, rp, ca, cp, oa, op, ya, yp, za, zp, rfl, _, hs, hy, hz⟩ := hx.lit
  have HS : Hid (StmtV w #[.int .i64 t.st.kind, .string t.st.table, .slice ka t.st.key.length kp, .slice ra t.st.row.length rp, .int .i64 t.st.ddl.kind, .string t.st.ddl.table, .slice ca t.st.ddl.cols.length cp, .slice oa t.st.ddl.keys.length op, .string t.st.ddl.name, .string t.st.ddl.to] t.st ∧ t.st.few) := ⟨hs, hf.1⟩
  have HY : Hid (StrsV w (.slice ya t.cols.length yp) t.cols ∧ t.cols.length ≤ 1048576) := ⟨hy, hf.2.1⟩
  have HZ : Hid (StrsV w (.slice za t.keys.length zp) t.keys ∧ t.keys.length ≤ 1048576) := ⟨hz, hf.2.2⟩
  clear hs hy hz hx hf
  have HL := Loc.new w #[.int .i64 t.st.kind, .string t.st.table, .slice ka t.st.key.length kp, .slice ra t.st.row.length rp, .int .i64 t.st.ddl.kind, .string t.st.ddl.table, .slice ca t.st.ddl.cols.length cp, .slice oa t.st.ddl.keys.length op, .string t.st.ddl.name, .string t.st.ddl.to, .slice ya t.cols.length yp, .slice za t.keys.length zp] 107
  go_enter Tryz.func67, Tryz.ntmps67
  go_wp2_with fail
  have hb0 : Below w.heap.size w (((w.alloc (.cells #[.int .i64 t.st.kind, .string t.st.table, .slice ka t.st.key.length kp, .slice ra t.st.row.length rp, .int .i64 t.st.ddl.kind, .string t.st.ddl.table, .slice ca t.st.ddl.cols.length cp, .slice oa t.st.ddl.keys.length op, .string t.st.ddl.name, .string t.st.ddl.to, .slice ya t.cols.length yp, .slice za t.keys.length zp] 107)).alloc (.cells #[.int .i64 0, .string { data := #[] }, .slice none 0 0, .slice none 0 0, .int .i64 0, .string { data := #[] }, .slice none 0 0, .slice none 0 0, .string { data := #[] }, .string { data := #[] }, .slice none 0 0, .slice none 0 0] 68)).alloc (.cells #[.int .i64 0, .string { data := #[] }, .slice none 0 0, .slice none 0 0, .int .i64 0, .string { data := #[] }, .slice none 0 0, .slice none 0 0, .string { data := #[] }, .string { data := #[] }, .slice none 0 0, .slice none 0 0] 68)) := (by repeat (first | with_reducible exact Below.refl _ _ | with_reducible assumption | with_reducible refine ch_alloc ?_ _ | with_reducible refine Below.drew ?_ | with_reducible refine below_draws _ ?_ | (with_reducible refine Below.setCell ?_ ?_ _; rotate_left; focus (first | with_reducible exact Nat.le_refl _ | (simp; done) | (simp; omega) | (simp at *; omega))) | with_reducible refine ch_trans ?_ (by with_reducible assumption)))
  have HQ := (Own.at (w.alloc (.cells #[.int .i64 t.st.kind, .string t.st.table, .slice ka t.st.key.length kp, .slice ra t.st.row.length rp, .int .i64 t.st.ddl.kind, .string t.st.ddl.table, .slice ca t.st.ddl.cols.length cp, .slice oa t.st.ddl.keys.length op, .string t.st.ddl.name, .string t.st.ddl.to, .slice ya t.cols.length yp, .slice za t.keys.length zp] 107)) 68 #[.int .i64 0, .string { data := #[] }, .slice none 0 0, .slice none 0 0, .int .i64 0, .string { data := #[] }, .slice none 0 0, .slice none 0 0, .string { data := #[] }, .string { data := #[] }, .slice none 0 0, .slice none 0 0] (n := w.heap.size + 1) (by simp)).on (ch_alloc (Below.refl _ _) (.cells #[.int .i64 0, .string { data := #[] }, .slice none 0 0, .slice none 0 0, .int .i64 0, .string { data := #[] }, .slice none 0 0, .slice none 0 0, .string { data := #[] }, .string { data := #[] }, .slice none 0 0, .slice none 0 0] 68))
  have HO := Own.at ((w.alloc (.cells #[.int .i64 t.st.kind, .string t.st.table, .slice ka t.st.key.length kp, .slice ra t.st.row.length rp, .int .i64 t.st.ddl.kind, .string t.st.ddl.table, .slice ca t.st.ddl.cols.length cp, .slice oa t.st.ddl.keys.length op, .string t.st.ddl.name, .string t.st.ddl.to, .slice ya t.cols.length yp, .slice za t.keys.length zp] 107)).alloc (.cells #[.int .i64 0, .string { data := #[] }, .slice none 0 0, .slice none 0 0, .int .i64 0, .string { data := #[] }, .slice none 0 0, .slice none 0 0, .string { data := #[] }, .string { data := #[] }, .slice none 0 0, .slice none 0 0] 68)) 68 #[.int .i64 0, .string { data := #[] }, .slice none 0 0, .slice none 0 0, .int .i64 0, .string { data := #[] }, .slice none 0 0, .slice none 0 0, .string { data := #[] }, .string { data := #[] }, .slice none 0 0, .slice none 0 0] (n := w.heap.size + 1 + 1) (by simp)
  have HL0 := (HL.on1 (.cells #[.int .i64 0, .string { data := #[] }, .slice none 0 0, .slice none 0 0, .int .i64 0, .string { data := #[] }, .slice none 0 0, .slice none 0 0, .string { data := #[] }, .string { data := #[] }, .slice none 0 0, .slice none 0 0] 68)).on1 (.cells #[.int .i64 0, .string { data := #[] }, .slice none 0 0, .slice none 0 0, .int .i64 0, .string { data := #[] }, .slice none 0 0, .slice none 0 0, .string { data := #[] }, .string { data := #[] }, .slice none 0 0, .slice none 0 0] 68)
  have hs0 : w.heap.size + 1 + 1 + 1 ≤ (((w.alloc (.cells #[.int .i64 t.st.kind, .string t.st.table, .slice ka t.st.key.length kp, .slice ra t.st.row.length rp, .int .i64 t.st.ddl.kind, .string t.st.ddl.table, .slice ca t.st.ddl.cols.length cp, .slice oa t.st.ddl.keys.length op, .string t.st.ddl.name, .string t.st.ddl.to, .slice ya t.cols.length yp, .slice za t.keys.length zp] 107)).alloc (.cells #[.int .i64 0, .string { data := #[] }, .slice none 0 0, .slice none 0 0, .int .i64 0, .string { data := #[] }, .slice none 0 0, .slice none 0 0, .string { data := #[] }, .string { data := #[] }, .slice none 0 0, .slice none 0 0] 68)).alloc (.cells #[.int .i64 0, .string { data := #[] }, .slice none 0 0, .slice none 0 0, .int .i64 0, .string { data := #[] }, .slice none 0 0, .slice none 0 0, .string { data := #[] }, .string { data := #[] }, .slice none 0 0, .slice none 0 0] 68)).heap.size := by simp
  clear HL
  generalize (((w.alloc (.cells #[.int .i64 t.st.kind, .string t.st.table, .slice ka t.st.key.length kp, .slice ra t.st.row.length rp, .int .i64 t.st.ddl.kind, .string t.st.ddl.table, .slice ca t.st.ddl.cols.length cp, .slice oa t.st.ddl.keys.length op, .string t.st.ddl.name, .string t.st.ddl.to, .slice ya t.cols.length yp, .slice za t.keys.length zp] 107)).alloc (.cells #[.int .i64 0, .string { data := #[] }, .slice none 0 0, .slice none 0 0, .int .i64 0, .string { data := #[] }, .slice none 0 0, .slice none 0 0, .string { data := #[] }, .string { data := #[] }, .slice none 0 0, .slice none 0 0] 68)).alloc (.cells #[.int .i64 0, .string { data := #[] }, .slice none 0 0, .slice none 0 0, .int .i64 0, .string { data := #[] }, .slice none 0 0, .slice none 0 0, .string { data := #[] }, .string { data := #[] }, .slice none 0 0, .slice none 0 0] 68)) = u0 at hb0 HQ HO HL0 hs0 ⊢
  refine (toStmt_full _ t.st _ (HS.out.1.on hb0) HS.out.2).mono ?_
  rintro e w1 ⟨y, rfl, b1, hy⟩
  obtain ⟨ka1, kp1, ra1, rp1, ca1, cp1, oa1, op1, e1, _⟩ := hy.out.lit
  simp only [Sc.cells] at e1
  subst e1
  have HF1 : Hid (Firm (w.heap.size + 1 + 1 + 1) (fun u => StmtN w.heap.size u #[.int .i64 t.st.kind, .string t.st.table, .slice ka1 t.st.key.length kp1, .slice ra1 t.st.row.length rp1, .int .i64 t.st.ddl.kind, .string t.st.ddl.table, .slice ca1 t.st.ddl.cols.length cp1, .slice oa1 t.st.ddl.keys.length op1, .string t.st.ddl.name, .string t.st.ddl.to] t.st) w1) := (hy.mono (by omega)).imp fun u hu => hu.mono (by omega)
  have hb1 := ch_trans hb0 b1
  have HO1 := HO.on b1
  have HQ1 := HQ.on b1
  have HL1 := HL0.on b1
  have hs1 : w.heap.size + 1 + 1 + 1 ≤ w1.heap.size := by have := b1.size; omega
  clear hy b1 HO HQ HL0 hb0 hs0
  obtain ⟨c0, c1, c2, c3, c4, c5, c6, c7, c8, c9, c10, c11⟩ := HL1.twelve
  obtain ⟨d0, d1, d2, d3, d4, d5, d6, d7, d8, d9, d10, d11⟩ := HO1.loc.twelve
  have f0 := HO1.frozen 0
  have f1 := HO1.frozen 1
  have f2 := HO1.frozen 2
  have f3 := HO1.frozen 3
  have f4 := HO1.frozen 4
  have f5 := HO1.frozen 5
  have f6 := HO1.frozen 6
  have f7 := HO1.frozen 7
  have f8 := HO1.frozen 8
  have f9 := HO1.frozen 9
  go_wp2_with fail
  have HO2 : Own ((((((((((w1.setCell ⟨w.heap.size + 1 + 1, 0, none⟩ (.int .i64 t.st.kind)).setCell ⟨w.heap.size + 1 + 1, 1, none⟩ (.string t.st.table)).setCell ⟨w.heap.size + 1 + 1, 2, none⟩ (.slice ka1 t.st.key.length kp1)).setCell ⟨w.heap.size + 1 + 1, 3, none⟩ (.slice ra1 t.st.row.length rp1)).setCell ⟨w.heap.size + 1 + 1, 4, none⟩ (.int .i64 t.st.ddl.kind)).setCell ⟨w.heap.size + 1 + 1, 5, none⟩ (.string t.st.ddl.table)).setCell ⟨w.heap.size + 1 + 1, 6, none⟩ (.slice ca1 t.st.ddl.cols.length cp1)).setCell ⟨w.heap.size + 1 + 1, 7, none⟩ (.slice oa1 t.st.ddl.keys.length op1)).setCell ⟨w.heap.size + 1 + 1, 8, none⟩ (.string t.st.ddl.name)).setCell ⟨w.heap.size + 1 + 1, 9, none⟩ (.string t.st.ddl.to)) (w.heap.size + 1 + 1) 68 #[.int .i64 t.st.kind, .string t.st.table, .slice ka1 t.st.key.length kp1, .slice ra1 t.st.row.length rp1, .int .i64 t.st.ddl.kind, .string t.st.ddl.table, .slice ca1 t.st.ddl.cols.length cp1, .slice oa1 t.st.ddl.keys.length op1, .string t.st.ddl.name, .string t.st.ddl.to, .slice none 0 0, .slice none 0 0] := own_part [.int .i64 t.st.kind, .string t.st.table, .slice ka1 t.st.key.length kp1, .slice ra1 t.st.row.length rp1, .int .i64 t.st.ddl.kind, .string t.st.ddl.table, .slice ca1 t.st.ddl.cols.length cp1, .slice oa1 t.st.ddl.keys.length op1, .string t.st.ddl.name, .string t.st.ddl.to] [] [.int .i64 0, .string { data := #[] }, .slice none 0 0, .slice none 0 0, .int .i64 0, .string { data := #[] }, .slice none 0 0, .slice none 0 0, .string { data := #[] }, .string { data := #[] }] [.slice none 0 0, .slice none 0 0] w1 rfl HO1
  have HQ2 : Own ((((((((((w1.setCell ⟨w.heap.size + 1 + 1, 0, none⟩ (.int .i64 t.st.kind)).setCell ⟨w.heap.size + 1 + 1, 1, none⟩ (.string t.st.table)).setCell ⟨w.heap.size + 1 + 1, 2, none⟩ (.slice ka1 t.st.key.length kp1)).setCell ⟨w.heap.size + 1 + 1, 3, none⟩ (.slice ra1 t.st.row.length rp1)).setCell ⟨w.heap.size + 1 + 1, 4, none⟩ (.int .i64 t.st.ddl.kind)).setCell ⟨w.heap.size + 1 + 1, 5, none⟩ (.string t.st.ddl.table)).setCell ⟨w.heap.size + 1 + 1, 6, none⟩ (.slice ca1 t.st.ddl.cols.length cp1)).setCell ⟨w.heap.size + 1 + 1, 7, none⟩ (.slice oa1 t.st.ddl.keys.length op1)).setCell ⟨w.heap.size + 1 + 1, 8, none⟩ (.string t.st.ddl.name)).setCell ⟨w.heap.size + 1 + 1, 9, none⟩ (.string t.st.ddl.to)) (w.heap.size + 1) 68 #[.int .i64 0, .string { data := #[] }, .slice none 0 0, .slice none 0 0, .int .i64 0, .string { data := #[] }, .slice none 0 0, .slice none 0 0, .string { data := #[] }, .string { data := #[] }, .slice none 0 0, .slice none 0 0] := Own.past (c := w.heap.size + 1 + 1) (by omega) [.int .i64 t.st.kind, .string t.st.table, .slice ka1 t.st.key.length kp1, .slice ra1 t.st.row.length rp1, .int .i64 t.st.ddl.kind, .string t.st.ddl.table, .slice ca1 t.st.ddl.cols.length cp1, .slice oa1 t.st.ddl.keys.length op1, .string t.st.ddl.name, .string t.st.ddl.to] _ 0 HQ1
  have hb2 : Below w.heap.size w ((((((((((w1.setCell ⟨w.heap.size + 1 + 1, 0, none⟩ (.int .i64 t.st.kind)).setCell ⟨w.heap.size + 1 + 1, 1, none⟩ (.string t.st.table)).setCell ⟨w.heap.size + 1 + 1, 2, none⟩ (.slice ka1 t.st.key.length kp1)).setCell ⟨w.heap.size + 1 + 1, 3, none⟩ (.slice ra1 t.st.row.length rp1)).setCell ⟨w.heap.size + 1 + 1, 4, none⟩ (.int .i64 t.st.ddl.kind)).setCell ⟨w.heap.size + 1 + 1, 5, none⟩ (.string t.st.ddl.table)).setCell ⟨w.heap.size + 1 + 1, 6, none⟩ (.slice ca1 t.st.ddl.cols.length cp1)).setCell ⟨w.heap.size + 1 + 1, 7, none⟩ (.slice oa1 t.st.ddl.keys.length op1)).setCell ⟨w.heap.size + 1 + 1, 8, none⟩ (.string t.st.ddl.name)).setCell ⟨w.heap.size + 1 + 1, 9, none⟩ (.string t.st.ddl.to)) := stores_below (b := w.heap.size + 1 + 1) (by omega) [.int .i64 t.st.kind, .string t.st.table, .slice ka1 t.st.key.length kp1, .slice ra1 t.st.row.length rp1, .int .i64 t.st.ddl.kind, .string t.st.ddl.table, .slice ca1 t.st.ddl.cols.length cp1, .slice oa1 t.st.ddl.keys.length op1, .string t.st.ddl.name, .string t.st.ddl.to] _ 0 hb1
  have HF2 : Hid (Firm (w.heap.size + 1 + 1 + 1) (fun u => StmtN w.heap.size u #[.int .i64 t.st.kind, .string t.st.table, .slice ka1 t.st.key.length kp1, .slice ra1 t.st.row.length rp1, .int .i64 t.st.ddl.kind, .string t.st.ddl.table, .slice ca1 t.st.ddl.cols.length cp1, .slice oa1 t.st.ddl.keys.length op1, .string t.st.ddl.name, .string t.st.ddl.to] t.st) ((((((((((w1.setCell ⟨w.heap.size + 1 + 1, 0, none⟩ (.int .i64 t.st.kind)).setCell ⟨w.heap.size + 1 + 1, 1, none⟩ (.string t.st.table)).setCell ⟨w.heap.size + 1 + 1, 2, none⟩ (.slice ka1 t.st.key.length kp1)).setCell ⟨w.heap.size + 1 + 1, 3, none⟩ (.slice ra1 t.st.row.length rp1)).setCell ⟨w.heap.size + 1 + 1, 4, none⟩ (.int .i64 t.st.ddl.kind)).setCell ⟨w.heap.size + 1 + 1, 5, none⟩ (.string t.st.ddl.table)).setCell ⟨w.heap.size + 1 + 1, 6, none⟩ (.slice ca1 t.st.ddl.cols.length cp1)).setCell ⟨w.heap.size + 1 + 1, 7, none⟩ (.slice oa1 t.st.ddl.keys.length op1)).setCell ⟨w.heap.size + 1 + 1, 8, none⟩ (.string t.st.ddl.name)).setCell ⟨w.heap.size + 1 + 1, 9, none⟩ (.string t.st.ddl.to))) := Firm.stores (b := w.heap.size + 1 + 1) (by omega) [.int .i64 t.st.kind, .string t.st.table, .slice ka1 t.st.key.length kp1, .slice ra1 t.st.row.length rp1, .int .i64 t.st.ddl.kind, .string t.st.ddl.table, .slice ca1 t.st.ddl.cols.length cp1, .slice oa1 t.st.ddl.keys.length op1, .string t.st.ddl.name, .string t.st.ddl.to] _ 0 HF1.out
  have HL2 : Loc ((((((((((w1.setCell ⟨w.heap.size + 1 + 1, 0, none⟩ (.int .i64 t.st.kind)).setCell ⟨w.heap.size + 1 + 1, 1, none⟩ (.string t.st.table)).setCell ⟨w.heap.size + 1 + 1, 2, none⟩ (.slice ka1 t.st.key.length kp1)).setCell ⟨w.heap.size + 1 + 1, 3, none⟩ (.slice ra1 t.st.row.length rp1)).setCell ⟨w.heap.size + 1 + 1, 4, none⟩ (.int .i64 t.st.ddl.kind)).setCell ⟨w.heap.size + 1 + 1, 5, none⟩ (.string t.st.ddl.table)).setCell ⟨w.heap.size + 1 + 1, 6, none⟩ (.slice ca1 t.st.ddl.cols.length cp1)).setCell ⟨w.heap.size + 1 + 1, 7, none⟩ (.slice oa1 t.st.ddl.keys.length op1)).setCell ⟨w.heap.size + 1 + 1, 8, none⟩ (.string t.st.ddl.name)).setCell ⟨w.heap.size + 1 + 1, 9, none⟩ (.string t.st.ddl.to)) w.heap.size #[.int .i64 t.st.kind, .string t.st.table, .slice ka t.st.key.length kp, .slice ra t.st.row.length rp, .int .i64 t.st.ddl.kind, .string t.st.ddl.table, .slice ca t.st.ddl.cols.length cp, .slice oa t.st.ddl.keys.length op, .string t.st.ddl.name, .string t.st.ddl.to, .slice ya t.cols.length yp, .slice za t.keys.length zp] := Loc.past (c := w.heap.size + 1 + 1) (by omega) [.int .i64 t.st.kind, .string t.st.table, .slice ka1 t.st.key.length kp1, .slice ra1 t.st.row.length rp1, .int .i64 t.st.ddl.kind, .string t.st.ddl.table, .slice ca1 t.st.ddl.cols.length cp1, .slice oa1 t.st.ddl.keys.length op1, .string t.st.ddl.name, .string t.st.ddl.to] _ 0 HL1
  have hs2 : w.heap.size + 1 + 1 + 1 ≤ ((((((((((w1.setCell ⟨w.heap.size + 1 + 1, 0, none⟩ (.int .i64 t.st.kind)).setCell ⟨w.heap.size + 1 + 1, 1, none⟩ (.string t.st.table)).setCell ⟨w.heap.size + 1 + 1, 2, none⟩ (.slice ka1 t.st.key.length kp1)).setCell ⟨w.heap.size + 1 + 1, 3, none⟩ (.slice ra1 t.st.row.length rp1)).setCell ⟨w.heap.size + 1 + 1, 4, none⟩ (.int .i64 t.st.ddl.kind)).setCell ⟨w.heap.size + 1 + 1, 5, none⟩ (.string t.st.ddl.table)).setCell ⟨w.heap.size + 1 + 1, 6, none⟩ (.slice ca1 t.st.ddl.cols.length cp1)).setCell ⟨w.heap.size + 1 + 1, 7, none⟩ (.slice oa1 t.st.ddl.keys.length op1)).setCell ⟨w.heap.size + 1 + 1, 8, none⟩ (.string t.st.ddl.name)).setCell ⟨w.heap.size + 1 + 1, 9, none⟩ (.string t.st.ddl.to)).heap.size := Nat.le_trans hs1 (Nat.le_of_eq (stores_size (w.heap.size + 1 + 1) [.int .i64 t.st.kind, .string t.st.table, .slice ka1 t.st.key.length kp1, .slice ra1 t.st.row.length rp1, .int .i64 t.st.ddl.kind, .string t.st.ddl.table, .slice ca1 t.st.ddl.cols.length cp1, .slice oa1 t.st.ddl.keys.length op1, .string t.st.ddl.name, .string t.st.ddl.to] w1 0).symm)
  clear HF1 hs1 HO1 HQ1 HL1 hb1 c0 c1 c2 c3 c4 c5 c6 c7 c8 c9 c10 c11 d0 d1 d2 d3 d4 d5 d6 d7 d8 d9 d10 d11 f0 f1 f2 f3 f4 f5 f6 f7 f8 f9
  generalize ((((((((((w1.setCell ⟨w.heap.size + 1 + 1, 0, none⟩ (.int .i64 t.st.kind)).setCell ⟨w.heap.size + 1 + 1, 1, none⟩ (.string t.st.table)).setCell ⟨w.heap.size + 1 + 1, 2, none⟩ (.slice ka1 t.st.key.length kp1)).setCell ⟨w.heap.size + 1 + 1, 3, none⟩ (.slice ra1 t.st.row.length rp1)).setCell ⟨w.heap.size + 1 + 1, 4, none⟩ (.int .i64 t.st.ddl.kind)).setCell ⟨w.heap.size + 1 + 1, 5, none⟩ (.string t.st.ddl.table)).setCell ⟨w.heap.size + 1 + 1, 6, none⟩ (.slice ca1 t.st.ddl.cols.length cp1)).setCell ⟨w.heap.size + 1 + 1, 7, none⟩ (.slice oa1 t.st.ddl.keys.length op1)).setCell ⟨w.heap.size + 1 + 1, 8, none⟩ (.string t.st.ddl.name)).setCell ⟨w.heap.size + 1 + 1, 9, none⟩ (.string t.st.ddl.to)) = u1 at HO2 HQ2 hb2 HL2 HF2 hs2 ⊢
  refine (toStringS_full _ t.cols _ (HY.out.1.on hb2) HY.out.2).mono ?_
  rintro e w2 ⟨rfl, b2, hy⟩
  have HZ1 : Hid (Firm (w.heap.size + 1 + 1 + 1) (fun u => StrsN w.heap.size u (.slice (some ⟨u1.heap.size, 0, none⟩) t.cols.length t.cols.length) t.cols) w2) := (hy.firmStrs HY.out.2 (by omega)).mono hs2
  have HF3 : Hid (Firm (w.heap.size + 1 + 1 + 1) (fun u => StmtN w.heap.size u #[.int .i64 t.st.kind, .string t.st.table, .slice ka1 t.st.key.length kp1, .slice ra1 t.st.row.length rp1, .int .i64 t.st.ddl.kind, .string t.st.ddl.table, .slice ca1 t.st.ddl.cols.length cp1, .slice oa1 t.st.ddl.keys.length op1, .string t.st.ddl.name, .string t.st.ddl.to] t.st) w2) := HF2.out.on b2
  have hb3 := ch_trans hb2 b2
  have HO3 := HO2.on b2
  have HQ3 := HQ2.on b2
  have HL3 := HL2.on b2
  have hs3 : w.heap.size + 1 + 1 + 1 ≤ w2.heap.size := by have := b2.size; omega
  generalize u1.heap.size = B1 at HZ1 ⊢
  clear hy b2 HO2 HQ2 HL2 hb2 hs2 HF2
  obtain ⟨c0, c1, c2, c3, c4, c5, c6, c7, c8, c9, c10, c11⟩ := HL3.twelve
  obtain ⟨d0, d1, d2, d3, d4, d5, d6, d7, d8, d9, d10, d11⟩ := HO3.loc.twelve
  have f10 := HO3.frozen 10
  go_wp2_with fail
  have HO4 : Own (w2.setCell ⟨w.heap.size + 1 + 1, 10, none⟩ (.slice (some ⟨B1, 0, none⟩) t.cols.length t.cols.length)) (w.heap.size + 1 + 1) 68 #[.int .i64 t.st.kind, .string t.st.table, .slice ka1 t.st.key.length kp1, .slice ra1 t.st.row.length rp1, .int .i64 t.st.ddl.kind, .string t.st.ddl.table, .slice ca1 t.st.ddl.cols.length cp1, .slice oa1 t.st.ddl.keys.length op1, .string t.st.ddl.name, .string t.st.ddl.to, .slice (some ⟨B1, 0, none⟩) t.cols.length t.cols.length, .slice none 0 0] := HO3.set 10 (.slice (some ⟨B1, 0, none⟩) t.cols.length t.cols.length)
  have HQ4 := HQ3.other (p := ⟨w.heap.size + 1 + 1, 10, none⟩) (by simp) (.slice (some ⟨B1, 0, none⟩) t.cols.length t.cols.length)
  have hb4 : Below w.heap.size w (w2.setCell ⟨w.heap.size + 1 + 1, 10, none⟩ (.slice (some ⟨B1, 0, none⟩) t.cols.length t.cols.length)) := (by repeat (first | with_reducible exact Below.refl _ _ | with_reducible assumption | with_reducible refine ch_alloc ?_ _ | with_reducible refine Below.drew ?_ | with_reducible refine below_draws _ ?_ | (with_reducible refine Below.setCell ?_ ?_ _; rotate_left; focus (first | with_reducible exact Nat.le_refl _ | (simp; done) | (simp; omega) | (simp at *; omega))) | with_reducible refine ch_trans ?_ (by with_reducible assumption)))
  have HL4 := HL3.other (p := ⟨w.heap.size + 1 + 1, 10, none⟩) (by simp; omega) (.slice (some ⟨B1, 0, none⟩) t.cols.length t.cols.length)
  have HF4 : Hid (Firm (w.heap.size + 1 + 1 + 1) (fun u => StmtN w.heap.size u #[.int .i64 t.st.kind, .string t.st.table, .slice ka1 t.st.key.length kp1, .slice ra1 t.st.row.length rp1, .int .i64 t.st.ddl.kind, .string t.st.ddl.table, .slice ca1 t.st.ddl.cols.length cp1, .slice oa1 t.st.ddl.keys.length op1, .string t.st.ddl.name, .string t.st.ddl.to] t.st ∧ StrsN w.heap.size u (.slice (some ⟨B1, 0, none⟩) t.cols.length t.cols.length) t.cols) (w2.setCell ⟨w.heap.size + 1 + 1, 10, none⟩ (.slice (some ⟨B1, 0, none⟩) t.cols.length t.cols.length))) := (HF3.out.and HZ1.out).set (by simp) _
  have hs4 : w.heap.size + 1 + 1 + 1 ≤ (w2.setCell ⟨w.heap.size + 1 + 1, 10, none⟩ (.slice (some ⟨B1, 0, none⟩) t.cols.length t.cols.length)).heap.size := by simpa using hs3
  clear HF3 HZ1 hs3 HO3 HQ3 HL3 hb3 c0 c1 c2 c3 c4 c5 c6 c7 c8 c9 c10 c11 d0 d1 d2 d3 d4 d5 d6 d7 d8 d9 d10 d11 f10
  generalize (w2.setCell ⟨w.heap.size + 1 + 1, 10, none⟩ (.slice (some ⟨B1, 0, none⟩) t.cols.length t.cols.length)) = u2 at HO4 HQ4 hb4 HL4 HF4 hs4 ⊢
  refine (toStringS_full _ t.keys _ (HZ.out.1.on hb4) HZ.out.2).mono ?_
  rintro e w3 ⟨rfl, b3, hy⟩
  have HZ2 : Hid (Firm (w.heap.size + 1 + 1 + 1) (fun u => StrsN w.heap.size u (.slice (some ⟨u2.heap.size, 0, none⟩) t.keys.length t.keys.length) t.keys) w3) := (hy.firmStrs HZ.out.2 (by omega)).mono hs4
  have HF5 : Hid (Firm (w.heap.size + 1 + 1 + 1) (fun u => StmtN w.heap.size u #[.int .i64 t.st.kind, .string t.st.table, .slice ka1 t.st.key.length kp1, .slice ra1 t.st.row.length rp1, .int .i64 t.st.ddl.kind, .string t.st.ddl.table, .slice ca1 t.st.ddl.cols.length cp1, .slice oa1 t.st.ddl.keys.length op1, .string t.st.ddl.name, .string t.st.ddl.to] t.st ∧ StrsN w.heap.size u (.slice (some ⟨B1, 0, none⟩) t.cols.length t.cols.length) t.cols) w3) := HF4.out.on b3
  have hb5 := ch_trans hb4 b3
  have HO5 := HO4.on b3
  have HQ5 := HQ4.on b3
  generalize u2.heap.size = B2 at HZ2 ⊢
  clear hy b3 HO4 HQ4 HL4 hb4 hs4 HF4
  have HF6 : Hid (Firm (w.heap.size + 1 + 1 + 1) (fun u => PartN w.heap.size u #[.int .i64 t.st.kind, .string t.st.table, .slice ka1 t.st.key.length kp1, .slice ra1 t.st.row.length rp1, .int .i64 t.st.ddl.kind, .string t.st.ddl.table, .slice ca1 t.st.ddl.cols.length cp1, .slice oa1 t.st.ddl.keys.length op1, .string t.st.ddl.name, .string t.st.ddl.to, .slice (some ⟨B1, 0, none⟩) t.cols.length t.cols.length, .slice (some ⟨B2, 0, none⟩) t.keys.length t.keys.length] t) w3) := (HF5.out.and HZ2.out).imp fun u ⟨⟨h1, h2⟩, h3⟩ => PartN.of h1 h2 h3
  clear HF5 HZ2
  obtain ⟨d0, d1, d2, d3, d4, d5, d6, d7, d8, d9, d10, d11⟩ := HO5.loc.twelve
  have f11 := HO5.frozen 11
  obtain ⟨g0, g1, g2, g3, g4, g5, g6, g7, g8, g9, g10, g11⟩ := HQ5.loc.twelve
  have i0 := HQ5.frozen 0
  have i1 := HQ5.frozen 1
  have i2 := HQ5.frozen 2
  have i3 := HQ5.frozen 3
  have i4 := HQ5.frozen 4
  have i5 := HQ5.frozen 5
  have i6 := HQ5.frozen 6
  have i7 := HQ5.frozen 7
  have i8 := HQ5.frozen 8
  have i9 := HQ5.frozen 9
  have i10 := HQ5.frozen 10
  have i11 := HQ5.frozen 11
  go_wp2
  have HQ6 : Own (((((((((((((w3.setCell ⟨w.heap.size + 1 + 1, 11, none⟩ (.slice (some ⟨B2, 0, none⟩) t.keys.length t.keys.length)).setCell ⟨w.heap.size + 1, 0, none⟩ (.int .i64 t.st.kind)).setCell ⟨w.heap.size + 1, 1, none⟩ (.string t.st.table)).setCell ⟨w.heap.size + 1, 2, none⟩ (.slice ka1 t.st.key.length kp1)).setCell ⟨w.heap.size + 1, 3, none⟩ (.slice ra1 t.st.row.length rp1)).setCell ⟨w.heap.size + 1, 4, none⟩ (.int .i64 t.st.ddl.kind)).setCell ⟨w.heap.size + 1, 5, none⟩ (.string t.st.ddl.table)).setCell ⟨w.heap.size + 1, 6, none⟩ (.slice ca1 t.st.ddl.cols.length cp1)).setCell ⟨w.heap.size + 1, 7, none⟩ (.slice oa1 t.st.ddl.keys.length op1)).setCell ⟨w.heap.size + 1, 8, none⟩ (.string t.st.ddl.name)).setCell ⟨w.heap.size + 1, 9, none⟩ (.string t.st.ddl.to)).setCell ⟨w.heap.size + 1, 10, none⟩ (.slice (some ⟨B1, 0, none⟩) t.cols.length t.cols.length)).setCell ⟨w.heap.size + 1, 11, none⟩ (.slice (some ⟨B2, 0, none⟩) t.keys.length t.keys.length)) _ _ #[.int .i64 t.st.kind, .string t.st.table, .slice ka1 t.st.key.length kp1, .slice ra1 t.st.row.length rp1, .int .i64 t.st.ddl.kind, .string t.st.ddl.table, .slice ca1 t.st.ddl.cols.length cp1, .slice oa1 t.st.ddl.keys.length op1, .string t.st.ddl.name, .string t.st.ddl.to, .slice (some ⟨B1, 0, none⟩) t.cols.length t.cols.length, .slice (some ⟨B2, 0, none⟩) t.keys.length t.keys.length] := (Own.past (c := w.heap.size + 1 + 1) (by omega) [.slice (some ⟨B2, 0, none⟩) t.keys.length t.keys.length] _ 11 HQ5).fill (old := [_, _, _, _, _, _, _, _, _, _, _, _]) [.int .i64 t.st.kind, .string t.st.table, .slice ka1 t.st.key.length kp1, .slice ra1 t.st.row.length rp1, .int .i64 t.st.ddl.kind, .string t.st.ddl.table, .slice ca1 t.st.ddl.cols.length cp1, .slice oa1 t.st.ddl.keys.length op1, .string t.st.ddl.name, .string t.st.ddl.to, .slice (some ⟨B1, 0, none⟩) t.cols.length t.cols.length, .slice (some ⟨B2, 0, none⟩) t.keys.length t.keys.length] rfl
  have HF7 : Hid (Firm (w.heap.size + 1 + 1 + 1) (fun u => PartN w.heap.size u #[.int .i64 t.st.kind, .string t.st.table, .slice ka1 t.st.key.length kp1, .slice ra1 t.st.row.length rp1, .int .i64 t.st.ddl.kind, .string t.st.ddl.table, .slice ca1 t.st.ddl.cols.length cp1, .slice oa1 t.st.ddl.keys.length op1, .string t.st.ddl.name, .string t.st.ddl.to, .slice (some ⟨B1, 0, none⟩) t.cols.length t.cols.length, .slice (some ⟨B2, 0, none⟩) t.keys.length t.keys.length] t) (((((((((((((w3.setCell ⟨w.heap.size + 1 + 1, 11, none⟩ (.slice (some ⟨B2, 0, none⟩) t.keys.length t.keys.length)).setCell ⟨w.heap.size + 1, 0, none⟩ (.int .i64 t.st.kind)).setCell ⟨w.heap.size + 1, 1, none⟩ (.string t.st.table)).setCell ⟨w.heap.size + 1, 2, none⟩ (.slice ka1 t.st.key.length kp1)).setCell ⟨w.heap.size + 1, 3, none⟩ (.slice ra1 t.st.row.length rp1)).setCell ⟨w.heap.size + 1, 4, none⟩ (.int .i64 t.st.ddl.kind)).setCell ⟨w.heap.size + 1, 5, none⟩ (.string t.st.ddl.table)).setCell ⟨w.heap.size + 1, 6, none⟩ (.slice ca1 t.st.ddl.cols.length cp1)).setCell ⟨w.heap.size + 1, 7, none⟩ (.slice oa1 t.st.ddl.keys.length op1)).setCell ⟨w.heap.size + 1, 8, none⟩ (.string t.st.ddl.name)).setCell ⟨w.heap.size + 1, 9, none⟩ (.string t.st.ddl.to)).setCell ⟨w.heap.size + 1, 10, none⟩ (.slice (some ⟨B1, 0, none⟩) t.cols.length t.cols.length)).setCell ⟨w.heap.size + 1, 11, none⟩ (.slice (some ⟨B2, 0, none⟩) t.keys.length t.keys.length))) := Firm.stores (b := w.heap.size + 1) (by omega) [.int .i64 t.st.kind, .string t.st.table, .slice ka1 t.st.key.length kp1, .slice ra1 t.st.row.length rp1, .int .i64 t.st.ddl.kind, .string t.st.ddl.table, .slice ca1 t.st.ddl.cols.length cp1, .slice oa1 t.st.ddl.keys.length op1, .string t.st.ddl.name, .string t.st.ddl.to, .slice (some ⟨B1, 0, none⟩) t.cols.length t.cols.length, .slice (some ⟨B2, 0, none⟩) t.keys.length t.keys.length] _ 0 (Firm.stores (b := w.heap.size + 1 + 1) (by omega) [.slice (some ⟨B2, 0, none⟩) t.keys.length t.keys.length] _ 11 HF6.out)
  have HB : Hid (Below w.heap.size w (((((((((((((w3.setCell ⟨w.heap.size + 1 + 1, 11, none⟩ (.slice (some ⟨B2, 0, none⟩) t.keys.length t.keys.length)).setCell ⟨w.heap.size + 1, 0, none⟩ (.int .i64 t.st.kind)).setCell ⟨w.heap.size + 1, 1, none⟩ (.string t.st.table)).setCell ⟨w.heap.size + 1, 2, none⟩ (.slice ka1 t.st.key.length kp1)).setCell ⟨w.heap.size + 1, 3, none⟩ (.slice ra1 t.st.row.length rp1)).setCell ⟨w.heap.size + 1, 4, none⟩ (.int .i64 t.st.ddl.kind)).setCell ⟨w.heap.size + 1, 5, none⟩ (.string t.st.ddl.table)).setCell ⟨w.heap.size + 1, 6, none⟩ (.slice ca1 t.st.ddl.cols.length cp1)).setCell ⟨w.heap.size + 1, 7, none⟩ (.slice oa1 t.st.ddl.keys.length op1)).setCell ⟨w.heap.size + 1, 8, none⟩ (.string t.st.ddl.name)).setCell ⟨w.heap.size + 1, 9, none⟩ (.string t.st.ddl.to)).setCell ⟨w.heap.size + 1, 10, none⟩ (.slice (some ⟨B1, 0, none⟩) t.cols.length t.cols.length)).setCell ⟨w.heap.size + 1, 11, none⟩ (.slice (some ⟨B2, 0, none⟩) t.keys.length t.keys.length))) := by
    show Below _ _ _
    exact stores_below (b := w.heap.size + 1) (by omega) [.int .i64 t.st.kind, .string t.st.table, .slice ka1 t.st.key.length kp1, .slice ra1 t.st.row.length rp1, .int .i64 t.st.ddl.kind, .string t.st.ddl.table, .slice ca1 t.st.ddl.cols.length cp1, .slice oa1 t.st.ddl.keys.length op1, .string t.st.ddl.name, .string t.st.ddl.to, .slice (some ⟨B1, 0, none⟩) t.cols.length t.cols.length, .slice (some ⟨B2, 0, none⟩) t.keys.length t.keys.length] _ 0 (stores_below (b := w.heap.size + 1 + 1) (by omega) [.slice (some ⟨B2, 0, none⟩) t.keys.length t.keys.length] _ 11 hb5)
  generalize (((((((((((((w3.setCell ⟨w.heap.size + 1 + 1, 11, none⟩ (.slice (some ⟨B2, 0, none⟩) t.keys.length t.keys.length)).setCell ⟨w.heap.size + 1, 0, none⟩ (.int .i64 t.st.kind)).setCell ⟨w.heap.size + 1, 1, none⟩ (.string t.st.table)).setCell ⟨w.heap.size + 1, 2, none⟩ (.slice ka1 t.st.key.length kp1)).setCell ⟨w.heap.size + 1, 3, none⟩ (.slice ra1 t.st.row.length rp1)).setCell ⟨w.heap.size + 1, 4, none⟩ (.int .i64 t.st.ddl.kind)).setCell ⟨w.heap.size + 1, 5, none⟩ (.string t.st.ddl.table)).setCell ⟨w.heap.size + 1, 6, none⟩ (.slice ca1 t.st.ddl.cols.length cp1)).setCell ⟨w.heap.size + 1, 7, none⟩ (.slice oa1 t.st.ddl.keys.length op1)).setCell ⟨w.heap.size + 1, 8, none⟩ (.string t.st.ddl.name)).setCell ⟨w.heap.size + 1, 9, none⟩ (.string t.st.ddl.to)).setCell ⟨w.heap.size + 1, 10, none⟩ (.slice (some ⟨B1, 0, none⟩) t.cols.length t.cols.length)).setCell ⟨w.heap.size + 1, 11, none⟩ (.slice (some ⟨B2, 0, none⟩) t.keys.length t.keys.length)) = W at HQ6 HB HF7 ⊢
  obtain ⟨e0, e1, e2, e3, e4, e5, e6, e7, e8, e9, e10, e11⟩ := HQ6.loc.twelve
  exact bodyPost_ret (v := .agg #[.int .i64 t.st.kind, .string t.st.table, .slice ka1 t.st.key.length kp1, .slice ra1 t.st.row.length rp1, .int .i64 t.st.ddl.kind, .string t.st.ddl.table, .slice ca1 t.st.ddl.cols.length cp1, .slice oa1 t.st.ddl.keys.length op1, .string t.st.ddl.name, .string t.st.ddl.to, .slice (some ⟨B1, 0, none⟩) t.cols.length t.cols.length, .slice (some ⟨B2, 0, none⟩) t.keys.length t.keys.length]) (by simp [results, Tryz.results67, go_sem, e0, e1, e2, e3, e4, e5, e6, e7, e8, e9, e10, e11]) rfl ⟨_, rfl, HB.out, HF7.out.mono (by omega)⟩

/-- The shape of parts behind a slice. -/
def PartsS (S : Nat → Prop) : Shape := RowS S 68 [IntS, StrS, ValsS S, ValsS S, IntS, StrS, ColsS S, StrsS S, StrS, StrS, StrsS S, StrsS S]
theorem PartsS.stays (S : Nat → Prop) : Stays S (PartsS S) := RowS.stays fun j h => by
  match j, h with
  | 0, _ => exact IntS.stays S
  | 1, _ => exact StrS.stays S
  | 2, _ => exact ValsS.stays S
  | 3, _ => exact ValsS.stays S
  | 4, _ => exact IntS.stays S
  | 5, _ => exact StrS.stays S
  | 6, _ => exact ColsS.stays S
  | 7, _ => exact StrsS.stays S
  | 8, _ => exact StrS.stays S
  | 9, _ => exact StrS.stays S
  | 10, _ => exact StrsS.stays S
  | 11, _ => exact StrsS.stays S
theorem PartsS.good : Good PartsS := ⟨fun S => RowS.holds fun j h => by
  match j, h with
  | 0, _ => exact IntS.holds S
  | 1, _ => exact StrS.holds S
  | 2, _ => exact ValsS.good.holds S
  | 3, _ => exact ValsS.good.holds S
  | 4, _ => exact IntS.holds S
  | 5, _ => exact StrS.holds S
  | 6, _ => exact ColsS.good.holds S
  | 7, _ => exact StrsS.good.holds S
  | 8, _ => exact StrS.holds S
  | 9, _ => exact StrS.holds S
  | 10, _ => exact StrsS.good.holds S
  | 11, _ => exact StrsS.good.holds S, fun S S' w u hs h => RowS.mono (es := [IntS, StrS, ValsS S, ValsS S, IntS, StrS, ColsS S, StrsS S, StrS, StrS, StrsS S, StrsS S]) (es' := [IntS, StrS, ValsS S', ValsS S', IntS, StrS, ColsS S', StrsS S', StrS, StrS, StrsS S', StrsS S']) hs rfl (fun j h h' w u hu => by
  match j, h with
  | 0, _ => exact hu
  | 1, _ => exact hu
  | 2, _ => exact ValsS.good.mono _ _ _ _ hs hu
  | 3, _ => exact ValsS.good.mono _ _ _ _ hs hu
  | 4, _ => exact hu
  | 5, _ => exact hu
  | 6, _ => exact ColsS.good.mono _ _ _ _ hs hu
  | 7, _ => exact StrsS.good.mono _ _ _ _ hs hu
  | 8, _ => exact hu
  | 9, _ => exact hu
  | 10, _ => exact StrsS.good.mono _ _ _ _ hs hu
  | 11, _ => exact StrsS.good.mono _ _ _ _ hs hu) h⟩
/-- Copied so far, with the shape. -/
def PfillN (w : World) (B : Nat) (T : TypeId) (ts : List Ptc) (k : Nat) : Prop := ∃ ys, Fill w B T 12 ts.length ys ∧ ys.length = k ∧ ∀ i (h : i < ys.length) (g : i < ts.length), Firm (B + 1) (fun u => PartN (B + 1) u ys[i] ts[i]) w
theorem PartN.size {B : Nat} {w : World} {x : Array Value} {t : Ptc} (h : PartN B w x t) : x.size = 12 := h.part.size
theorem PartN.lit {B : Nat} {w : World} {x : Array Value} {t : Ptc} (h : PartN B w x t) : ∃ ka kp ra rp ca cp oa op ya yp za zp, x = #[.int .i64 t.st.kind, .string t.st.table, .slice ka t.st.key.length kp, .slice ra t.st.row.length rp, .int .i64 t.st.ddl.kind, .string t.st.ddl.table, .slice ca t.st.ddl.cols.length cp, .slice oa t.st.ddl.keys.length op, .string t.st.ddl.name, .string t.st.ddl.to, .slice ya t.cols.length yp, .slice za t.keys.length zp] ∧ True ∧ True := by
  obtain ⟨ka, kp, ra, rp, ca, cp, oa, op, ya, yp, za, zp, e, _⟩ := h.part.lit
  exact ⟨ka, kp, ra, rp, ca, cp, oa, op, ya, yp, za, zp, e, trivial, trivial⟩
theorem PartN.mono {B B' : Nat} {w : World} {x : Array Value} {t : Ptc} (h : PartN B w x t) (hB : B' ≤ B) : PartN B' w x t := by
  obtain ⟨k, r, c, o, y, z, e, h1, h2, h3, h4, h5, h6⟩ := h
  exact ⟨k, r, c, o, y, z, e, ⟨h1.1, h1.2.mono ValsS.good hB⟩, ⟨h2.1, h2.2.mono ValsS.good hB⟩, ⟨h3.1, h3.2.mono ColsS.good hB⟩, ⟨h4.1, h4.2.mono StrsS.good hB⟩, ⟨h5.1, h5.2.mono StrsS.good hB⟩, ⟨h6.1, h6.2.mono StrsS.good hB⟩⟩
theorem PfillN.on {w w' : World} {B : Nat} {T : TypeId} {ts : List Ptc} {k : Nat} (h : PfillN w B T ts k) (b : Below w.heap.size w w') : PfillN w' B T ts k := by
  obtain ⟨ys, h1, h2, h3⟩ := h
  exact ⟨ys, h1.on b, h2, fun i h g => (h3 i h g).on b⟩
theorem PfillN.put {w : World} {B : Nat} {T : TypeId} {ts : List Ptc} {k : Nat} (h : PfillN w B T ts k) (hk : k < ts.length) {y : Array Value} (hy : Firm (B + 1) (fun u => PartN (B + 1) u y ts[k]) w) : PfillN (stores w B (k * 12) y.toList) B T ts (k + 1) := by
  obtain ⟨ys, h1, rfl, h3⟩ := h
  refine ⟨ys ++ [y], ?_, by simp, fun i h g => ?_⟩
  · have := h1.put hk y.toList (by simpa using hy.out.size)
    simpa using this
  · by_cases hi : i < ys.length
    · rw [List.getElem_append_left hi]
      exact Firm.stores (by omega) _ _ _ (h3 i hi g)
    · simp at h
      have : i = ys.length := by omega
      subst this
      simp only [List.getElem_append_right (Nat.le_refl _), Nat.sub_self, List.getElem_cons_zero]
      exact Firm.stores (by omega) _ _ _ hy
theorem PfillN.firm {w : World} {B : Nat} {ts : List Ptc} (h : PfillN w B 68 ts ts.length) (hm : ts.length ≤ 1048576) : Firm B (fun u => PartsV u (.slice (some ⟨B, 0, none⟩) ts.length ts.length) ts ∧ New PartsS B u (.slice (some ⟨B, 0, none⟩) ts.length ts.length)) w := by
  obtain ⟨ys, h1, h2, h3⟩ := h
  intro u hu
  have hF := h1.firm (Nat.le_refl _) u hu
  refine ⟨⟨_, _, ys, rfl, Nat.le_refl _, by unfold maxLen; omega, hF.row, h2, fun i h g => ((h3 i h g) u (hu.mono (by omega))).part⟩, ?_⟩
  have hlt := hF.lt
  obtain ⟨h0, _, f, hr, hf⟩ := hF
  refine ⟨B, ts.length, ts.length, f, rfl, ⟨Nat.le_refl _, hlt⟩, hm, hr, fun i hi j hj => ?_⟩
  have hiy : i < ys.length := by omega
  have hx := (h3 i hiy hi) u (hu.mono (by omega))
  obtain ⟨k, r, c, o, y, z, ex, g1, g2, g3, g4, g5, g6⟩ := hx
  have e := hf i hiy j (by simpa using hj)
  rw [ex] at e
  match j, hj with
  | 0, _ => simp at e; exact ⟨_, e⟩
  | 1, _ => simp at e; exact ⟨_, e⟩
  | 2, _ => simp at e; show ValsS _ u (f (i * 12 + 2)); rw [e]; exact (g1.2.mono ValsS.good (by omega) : New ValsS B u k)
  | 3, _ => simp at e; show ValsS _ u (f (i * 12 + 3)); rw [e]; exact (g2.2.mono ValsS.good (by omega) : New ValsS B u r)
  | 4, _ => simp at e; exact ⟨_, e⟩
  | 5, _ => simp at e; exact ⟨_, e⟩
  | 6, _ => simp at e; show ColsS _ u (f (i * 12 + 6)); rw [e]; exact (g3.2.mono ColsS.good (by omega) : New ColsS B u c)
  | 7, _ => simp at e; show StrsS _ u (f (i * 12 + 7)); rw [e]; exact (g4.2.mono StrsS.good (by omega) : New StrsS B u o)
  | 8, _ => simp at e; exact ⟨_, e⟩
  | 9, _ => simp at e; exact ⟨_, e⟩
  | 10, _ => simp at e; show StrsS _ u (f (i * 12 + 10)); rw [e]; exact (g5.2.mono StrsS.good (by omega) : New StrsS B u y)
  | 11, _ => simp at e; show StrsS _ u (f (i * 12 + 11)); rw [e]; exact (g6.2.mono StrsS.good (by omega) : New StrsS B u z)

set_option maxRecDepth 100000 in
set_option maxHeartbeats 1000000 in
/-- laws.toPartS -/
theorem toPartS_full (v : Value) (ts : List Ptc) (w : World) (hx : PartsV w v ts) (hf : pfews ts) :
    Calls Tryz.prog 34 #[v] w fun e w' => ∃ y, e = .returned y ∧ Below w.heap.size w w' ∧ Firm w.heap.size (fun u => PartsV u y ts ∧ New PartsS w.heap.size u y) w' := by
  obtain ⟨a, cap, rfl, hl, hm, hx⟩ := hx.lit
  unfold maxLen at hm
  have HX : Hid (PartsV w (.slice a ts.length cap) ts) := hx
  obtain ⟨hn, hf⟩ := hf
  have HF : Hid (∀ t ∈ ts, t.few) := hf
  clear hx hf
  have hmk := run_makes (P := Tryz.prog) 31 68 (.agg #[.int .i64 0, .string ByteArray.empty, .slice none 0 0, .slice none 0 0, .int .i64 0, .string ByteArray.empty, .slice none 0 0, .slice none 0 0, .string ByteArray.empty, .string ByteArray.empty, .slice none 0 0, .slice none 0 0]) _ 12 224 Tryz.underlying31 (by kernel_rfl) rfl .i64 .i64 ts.length (by omega) (by omega)
  go_enter Tryz.func34, Tryz.ntmps34
  go_wp2
  have HT : Hid (PfillN (w.alloc (.cells (madeCells #[.int .i64 0, .string ByteArray.empty, .slice none 0 0, .slice none 0 0, .int .i64 0, .string ByteArray.empty, .slice none 0 0, .slice none 0 0, .string ByteArray.empty, .string ByteArray.empty, .slice none 0 0, .slice none 0 0] (ts.length * 12)) 68)) w.heap.size 68 ts 0) := ⟨[], Fill.new w _ 12 ts.length _ (size_madeCells _ _), rfl, fun i h => by simp at h⟩
  go_loopw [4] (fun i wr => ∃ k : Nat, k ≤ ts.length ∧ i = .int .i64 k ∧ Below w.heap.size w wr ∧ Hid (PfillN wr w.heap.size 68 ts k)) (fun i _ => ts.length - (intOf i).toNat)
  case atStart => exact ⟨0, Nat.zero_le _, rfl, (by repeat (first | with_reducible exact Below.refl _ _ | with_reducible assumption | with_reducible refine ch_alloc ?_ _ | with_reducible refine Below.drew ?_ | with_reducible refine below_draws _ ?_ | (with_reducible refine Below.setCell ?_ ?_ _; rotate_left; focus (first | with_reducible exact Nat.le_refl _ | (simp; done) | (simp; omega) | (simp at *; omega))) | with_reducible refine ch_trans ?_ (by with_reducible assumption))), HT⟩
  case round =>
    clear HT
    obtain ⟨k, hk, rfl, hb, HT⟩ := hrel
    by_cases hlt : k < ts.length
    · have hlti : (k : Int) < ts.length := by omega
      obtain ⟨b, off, ka, kp, ra, rp, ca, cp, oa, op, ya, yp, za, zp, rfl, hx, d0, d1, d2, d3, d4, d5, d6, d7, d8, d9, d10, d11⟩ := (HX.out.on hb).part k hlt
      have HY : Hid (PartV wr #[.int .i64 ts[k].st.kind, .string ts[k].st.table, .slice ka ts[k].st.key.length kp, .slice ra ts[k].st.row.length rp, .int .i64 ts[k].st.ddl.kind, .string ts[k].st.ddl.table, .slice ca ts[k].st.ddl.cols.length cp, .slice oa ts[k].st.ddl.keys.length op, .string ts[k].st.ddl.name, .string ts[k].st.ddl.to, .slice ya ts[k].cols.length yp, .slice za ts[k].keys.length zp] ts[k]) := hx
      clear hx
      go_wp2_with fail
      refine (toPart_full _ ts[k] _ (HY.out.on (by repeat (first | with_reducible exact Below.refl _ _ | with_reducible assumption | with_reducible refine ch_alloc ?_ _ | with_reducible refine Below.drew ?_ | with_reducible refine below_draws _ ?_ | (with_reducible refine Below.setCell ?_ ?_ _; rotate_left; focus (first | with_reducible exact Nat.le_refl _ | (simp; done) | (simp; omega) | (simp at *; omega))) | with_reducible refine ch_trans ?_ (by with_reducible assumption)))) (HF.out _ (List.getElem_mem hlt))).mono ?_
      rintro e w1 ⟨y, rfl, b1, hy⟩
      obtain ⟨ka1, kp1, ra1, rp1, ca1, cp1, oa1, op1, ya1, yp1, za1, zp1, rfl, _, _⟩ := hy.out.lit
      have hB : w.heap.size + 1 ≤ wr.heap.size := by
        obtain ⟨ys, hF, _, _⟩ := HT.out
        exact hF.lt
      have hT1 := HT.out.on b1
      have HT' : Hid (PfillN (stores w1 w.heap.size (k * 12) [.int .i64 ts[k].st.kind, .string ts[k].st.table, .slice ka1 ts[k].st.key.length kp1, .slice ra1 ts[k].st.row.length rp1, .int .i64 ts[k].st.ddl.kind, .string ts[k].st.ddl.table, .slice ca1 ts[k].st.ddl.cols.length cp1, .slice oa1 ts[k].st.ddl.keys.length op1, .string ts[k].st.ddl.name, .string ts[k].st.ddl.to, .slice ya1 ts[k].cols.length yp1, .slice za1 ts[k].keys.length zp1]) w.heap.size 68 ts (k + 1)) := hT1.put hlt ((hy.mono hB).imp fun u hu => hu.mono hB)
      obtain ⟨ys, hF, hyl, _⟩ := hT1
      obtain ⟨v0, v1, v2, v3, v4, v5, v6, v7, v8, v9, v10, v11, ⟨g0, g1, g2, g3, g4, g5, g6, g7, g8, g9, g10, g11⟩, f0, f1, f2, f3, f4, f5, f6, f7, f8, f9, f10, f11⟩ := hF.twelve (k := k) hyl hlt
      clear hy hF hyl
      go_wp2
      go_round
      case rel => exact ⟨k + 1, by omega, by go_num, (by repeat (first | with_reducible exact Below.refl _ _ | with_reducible assumption | with_reducible refine ch_alloc ?_ _ | with_reducible refine Below.drew ?_ | with_reducible refine below_draws _ ?_ | (with_reducible refine Below.setCell ?_ ?_ _; rotate_left; focus (first | with_reducible exact Nat.le_refl _ | (simp; done) | (simp; omega) | (simp at *; omega))) | with_reducible refine ch_trans ?_ (by with_reducible assumption))), HT'⟩
      case measure => simp [intOf]; omega
    · have hlti : (ts.length : Int) ≤ k := by omega
      obtain rfl : k = ts.length := by omega
      have HD := HT.out.firm hn
      have HD' : Hid _ := HD
      clear HD
      go_wp2
      go_ret
      exact ⟨_, rfl, (by repeat (first | with_reducible exact Below.refl _ _ | with_reducible assumption | with_reducible refine ch_alloc ?_ _ | with_reducible refine Below.drew ?_ | with_reducible refine below_draws _ ?_ | (with_reducible refine Below.setCell ?_ ?_ _; rotate_left; focus (first | with_reducible exact Nat.le_refl _ | (simp; done) | (simp; omega) | (simp at *; omega))) | with_reducible refine ch_trans ?_ (by with_reducible assumption))), HD'.out⟩
end Go.Proofs.YtiijahoheajppaaGreat

namespace Go.Proofs.YtiijahoheajppaaGreat
open Go.ChangeShapes Go.WideShapes Go.ChangeAt Go.RowKit

/-- What a batch holds. -/
structure Btc where
  lsn : Int
  prev : Int
  parts : List Ptc
def BatV (w : World) (x : Array Value) (t : Btc) : Prop := ∃ a p, x = #[.int .i64 t.lsn, .int .i64 t.prev, .slice a t.parts.length p] ∧ PartsV w (.slice a t.parts.length p) t.parts
theorem BatV.on {w w' : World} {x : Array Value} {t : Btc} (h : BatV w x t) (b : Below w.heap.size w w') : BatV w' x t := by
  obtain ⟨a, p, e, h⟩ := h; exact ⟨a, p, e, h.on b⟩
def Btc.fit (t : Btc) : Prop := pfits t.parts
def Btc.few (t : Btc) : Prop := pfews t.parts

set_option maxRecDepth 100000 in
set_option maxHeartbeats 1000000 in
/-- laws.szBatch -/
theorem szBatch_any (x : Array Value) (t : Btc) (l : Int) (w : World) (hx : BatV w x t) (hf : t.fit) (h0 : 0 ≤ l) (h1 : l ≤ 1048576) :
    Calls Tryz.prog 6 #[.agg x, .int .i64 l] w fun e w' => ∃ r : Int, e = .returned (.int .i64 r) ∧ Below w.heap.size w w' ∧ (r = -1 ∨ (0 ≤ r ∧ r ≤ l ∧ t.few)) := by
  obtain ⟨a, p, rfl, hs⟩ := hx
  have HS : Hid (PartsV w (.slice a t.parts.length p) t.parts) := hs
  have HF : Hid (pfits t.parts) := hf
  clear hs hf
  go_enter Tryz.func6, Tryz.ntmps6
  go_wp2_with fail
  refine (szPartS_any _ t.parts l _ (HS.out.on (by repeat (first | with_reducible exact Below.refl _ _ | with_reducible assumption | with_reducible refine ch_alloc ?_ _ | with_reducible refine Below.drew ?_ | with_reducible refine below_draws _ ?_ | (with_reducible refine Below.setCell ?_ ?_ _; rotate_left; focus (first | with_reducible exact Nat.le_refl _ | (simp; done) | (simp; omega) | (simp at *; omega))) | with_reducible refine ch_trans ?_ (by with_reducible assumption)))) HF.out h0 h1).mono ?_
  rintro e w1 ⟨r, rfl, b1, hr⟩
  rcases hr with rfl | ⟨r0, r1, r2⟩
  · go_wp2
    go_ret
    exact ⟨_, rfl, (by repeat (first | with_reducible exact Below.refl _ _ | with_reducible assumption | with_reducible refine ch_alloc ?_ _ | with_reducible refine Below.drew ?_ | with_reducible refine below_draws _ ?_ | (with_reducible refine Below.setCell ?_ ?_ _; rotate_left; focus (first | with_reducible exact Nat.le_refl _ | (simp; done) | (simp; omega) | (simp at *; omega))) | with_reducible refine ch_trans ?_ (by with_reducible assumption))), Or.inl rfl⟩
  · have HR : Hid t.few := r2
    clear r2
    go_wp2
    go_ret
    exact ⟨_, rfl, (by repeat (first | with_reducible exact Below.refl _ _ | with_reducible assumption | with_reducible refine ch_alloc ?_ _ | with_reducible refine Below.drew ?_ | with_reducible refine below_draws _ ?_ | (with_reducible refine Below.setCell ?_ ?_ _; rotate_left; focus (first | with_reducible exact Nat.le_refl _ | (simp; done) | (simp; omega) | (simp at *; omega))) | with_reducible refine ch_trans ?_ (by with_reducible assumption))), Or.inr ⟨r0, r1, HR.out⟩⟩

set_option maxRecDepth 100000 in
set_option maxHeartbeats 1000000 in
/-- laws.eqBatch -/
theorem eqBatch_same (x y : Array Value) (t : Btc) (w : World) (hx : BatV w x t) (hy : BatV w y t) : Calls Tryz.prog 11 #[.agg x, .agg y] w fun e w' => e = .returned (.bool true) ∧ Below w.heap.size w w' := by
  obtain ⟨a, p, rfl, hs⟩ := hx
  obtain ⟨b, q, rfl, hs1⟩ := hy
  have HS : Hid (PartsV w (.slice a t.parts.length p) t.parts) := hs
  have HS1 : Hid (PartsV w (.slice b t.parts.length q) t.parts) := hs1
  clear hs hs1
  go_enter Tryz.func11, Tryz.ntmps11
  go_wp2_with fail
  refine (eqPartS_same _ _ t.parts _ (HS.out.on (by repeat (first | with_reducible exact Below.refl _ _ | with_reducible assumption | with_reducible refine ch_alloc ?_ _ | with_reducible refine Below.drew ?_ | with_reducible refine below_draws _ ?_ | (with_reducible refine Below.setCell ?_ ?_ _; rotate_left; focus (first | with_reducible exact Nat.le_refl _ | (simp; done) | (simp; omega) | (simp at *; omega))) | with_reducible refine ch_trans ?_ (by with_reducible assumption)))) (HS1.out.on (by repeat (first | with_reducible exact Below.refl _ _ | with_reducible assumption | with_reducible refine ch_alloc ?_ _ | with_reducible refine Below.drew ?_ | with_reducible refine below_draws _ ?_ | (with_reducible refine Below.setCell ?_ ?_ _; rotate_left; focus (first | with_reducible exact Nat.le_refl _ | (simp; done) | (simp; omega) | (simp at *; omega))) | with_reducible refine ch_trans ?_ (by with_reducible assumption))))).mono ?_
  rintro e w1 ⟨rfl, b1⟩
  go_wp2
  go_ret
  exact ⟨rfl, (by repeat (first | with_reducible exact Below.refl _ _ | with_reducible assumption | with_reducible refine ch_alloc ?_ _ | with_reducible refine Below.drew ?_ | with_reducible refine below_draws _ ?_ | (with_reducible refine Below.setCell ?_ ?_ _; rotate_left; focus (first | with_reducible exact Nat.le_refl _ | (simp; done) | (simp; omega) | (simp at *; omega))) | with_reducible refine ch_trans ?_ (by with_reducible assumption)))⟩

set_option maxRecDepth 100000 in
set_option maxHeartbeats 2000000 in
/-- laws.toBatch -/
theorem toBatch_full (x : Array Value) (t : Btc) (w : World) (hx : BatV w x t) (hf : t.few) :
    Calls Tryz.prog 8 #[.agg x] w fun e w' => ∃ y, e = .returned (.agg #[.int .i64 t.lsn, .int .i64 t.prev, y]) ∧ Below w.heap.size w w' ∧ Firm w.heap.size (fun u => PartsV u y t.parts ∧ New PartsS w.heap.size u y) w' := by
  obtain ⟨a, p, rfl, hs⟩ := hx
  have HS : Hid (PartsV w (.slice a t.parts.length p) t.parts) := hs
  have HF : Hid (pfews t.parts) := hf
  clear hs hf
  go_enter Tryz.func8, Tryz.ntmps8
  go_wp2_with fail
  have hb0 : Below w.heap.size w (((w.alloc (.cells #[.int .i64 t.lsn, .int .i64 t.prev, .slice a t.parts.length p] 24)).alloc (.cells #[.int .i64 0, .int .i64 0, .slice none 0 0] 33)).alloc (.cells #[.int .i64 t.lsn, .int .i64 t.prev, .slice none 0 0] 33)) := (by repeat (first | with_reducible exact Below.refl _ _ | with_reducible assumption | with_reducible refine ch_alloc ?_ _ | with_reducible refine Below.drew ?_ | with_reducible refine below_draws _ ?_ | (with_reducible refine Below.setCell ?_ ?_ _; rotate_left; focus (first | with_reducible exact Nat.le_refl _ | (simp; done) | (simp; omega) | (simp at *; omega))) | with_reducible refine ch_trans ?_ (by with_reducible assumption)))
  have HQ := (Own.at (w.alloc (.cells #[.int .i64 t.lsn, .int .i64 t.prev, .slice a t.parts.length p] 24)) 33 #[.int .i64 0, .int .i64 0, .slice none 0 0] (n := w.heap.size + 1) (by simp)).on (ch_alloc (Below.refl _ _) (.cells #[.int .i64 t.lsn, .int .i64 t.prev, .slice none 0 0] 33))
  have HO := Own.at ((w.alloc (.cells #[.int .i64 t.lsn, .int .i64 t.prev, .slice a t.parts.length p] 24)).alloc (.cells #[.int .i64 0, .int .i64 0, .slice none 0 0] 33)) 33 #[.int .i64 t.lsn, .int .i64 t.prev, .slice none 0 0] (n := w.heap.size + 1 + 1) (by simp)
  have hs0 : w.heap.size + 1 + 1 + 1 ≤ (((w.alloc (.cells #[.int .i64 t.lsn, .int .i64 t.prev, .slice a t.parts.length p] 24)).alloc (.cells #[.int .i64 0, .int .i64 0, .slice none 0 0] 33)).alloc (.cells #[.int .i64 t.lsn, .int .i64 t.prev, .slice none 0 0] 33)).heap.size := by simp
  generalize (((w.alloc (.cells #[.int .i64 t.lsn, .int .i64 t.prev, .slice a t.parts.length p] 24)).alloc (.cells #[.int .i64 0, .int .i64 0, .slice none 0 0] 33)).alloc (.cells #[.int .i64 t.lsn, .int .i64 t.prev, .slice none 0 0] 33)) = u0 at hb0 HQ HO hs0 ⊢
  refine (toPartS_full _ t.parts _ (HS.out.on hb0) HF.out).mono ?_
  rintro e w1 ⟨y, rfl, b1, hy⟩
  obtain ⟨ya, yp, rfl, _, _, _⟩ := hy.out.1.lit
  have HF6 : Hid (Firm (w.heap.size + 1 + 1 + 1) (fun u => PartsV u (.slice ya t.parts.length yp) t.parts ∧ New PartsS w.heap.size u (.slice ya t.parts.length yp)) w1) := (hy.mono hs0).imp fun u ⟨h1, h2⟩ => ⟨h1, h2.mono PartsS.good (by omega)⟩
  have hb1 := ch_trans hb0 b1
  have HO1 := HO.on b1
  have HQ1 := HQ.on b1
  clear hy b1 HO HQ hb0 hs0
  have d0 := HO1.loc 0 (by simp)
  have d1 := HO1.loc 1 (by simp)
  have d2 := HO1.loc 2 (by simp)
  have g0 := HQ1.loc 0 (by simp)
  have g1 := HQ1.loc 1 (by simp)
  have g2 := HQ1.loc 2 (by simp)
  have f2 := HO1.frozen 2
  have i0 := HQ1.frozen 0
  have i1 := HQ1.frozen 1
  have i2 := HQ1.frozen 2
  simp only [List.getElem_toArray, List.getElem_cons_zero, List.getElem_cons_succ] at d0 d1 d2 g0 g1 g2
  go_wp2
  have HQ4 : Own ((((w1.setCell ⟨w.heap.size + 1 + 1, 2, none⟩ (.slice ya t.parts.length yp)).setCell ⟨w.heap.size + 1, 0, none⟩ (.int .i64 t.lsn)).setCell ⟨w.heap.size + 1, 1, none⟩ (.int .i64 t.prev)).setCell ⟨w.heap.size + 1, 2, none⟩ (.slice ya t.parts.length yp)) _ _ #[.int .i64 t.lsn, .int .i64 t.prev, .slice ya t.parts.length yp] := (Own.past (c := w.heap.size + 1 + 1) (by omega) [.slice ya t.parts.length yp] _ 2 HQ1).fill (old := [_, _, _]) [.int .i64 t.lsn, .int .i64 t.prev, .slice ya t.parts.length yp] rfl
  have HF7 : Hid (Firm (w.heap.size + 1 + 1 + 1) (fun u => PartsV u (.slice ya t.parts.length yp) t.parts ∧ New PartsS w.heap.size u (.slice ya t.parts.length yp)) ((((w1.setCell ⟨w.heap.size + 1 + 1, 2, none⟩ (.slice ya t.parts.length yp)).setCell ⟨w.heap.size + 1, 0, none⟩ (.int .i64 t.lsn)).setCell ⟨w.heap.size + 1, 1, none⟩ (.int .i64 t.prev)).setCell ⟨w.heap.size + 1, 2, none⟩ (.slice ya t.parts.length yp))) := Firm.stores (b := w.heap.size + 1) (by omega) [.int .i64 t.lsn, .int .i64 t.prev, .slice ya t.parts.length yp] _ 0 (Firm.stores (b := w.heap.size + 1 + 1) (by omega) [.slice ya t.parts.length yp] _ 2 HF6.out)
  have HB : Hid (Below w.heap.size w ((((w1.setCell ⟨w.heap.size + 1 + 1, 2, none⟩ (.slice ya t.parts.length yp)).setCell ⟨w.heap.size + 1, 0, none⟩ (.int .i64 t.lsn)).setCell ⟨w.heap.size + 1, 1, none⟩ (.int .i64 t.prev)).setCell ⟨w.heap.size + 1, 2, none⟩ (.slice ya t.parts.length yp))) := by
    show Below _ _ _
    exact stores_below (b := w.heap.size + 1) (by omega) [.int .i64 t.lsn, .int .i64 t.prev, .slice ya t.parts.length yp] _ 0 (stores_below (b := w.heap.size + 1 + 1) (by omega) [.slice ya t.parts.length yp] _ 2 hb1)
  generalize ((((w1.setCell ⟨w.heap.size + 1 + 1, 2, none⟩ (.slice ya t.parts.length yp)).setCell ⟨w.heap.size + 1, 0, none⟩ (.int .i64 t.lsn)).setCell ⟨w.heap.size + 1, 1, none⟩ (.int .i64 t.prev)).setCell ⟨w.heap.size + 1, 2, none⟩ (.slice ya t.parts.length yp)) = W at HQ4 HB HF7 ⊢
  have e0 := HQ4.loc 0 (by simp)
  have e1 := HQ4.loc 1 (by simp)
  have e2 := HQ4.loc 2 (by simp)
  simp only [List.getElem_toArray, List.getElem_cons_zero, List.getElem_cons_succ] at e0 e1 e2
  exact bodyPost_ret (v := .agg #[.int .i64 t.lsn, .int .i64 t.prev, .slice ya t.parts.length yp]) (by simp [results, Tryz.results8, go_sem, e0, e1, e2]) rfl ⟨_, rfl, HB.out, HF7.out.mono (by omega)⟩
end Go.Proofs.YtiijahoheajppaaGreat
