/- Batches in memory: the laws' size, look and copy. Lists of parts whose parts all lie in blocks; a batch marked. -/
import Derived.Test.YtbjnonondnemhabPtb
import Derived.Test.YtbjnonondnemhabPtm
namespace Go.Proofs.Ytbjnonondnemhab
open Go.ChangeShapes Go.WideShapes Go.ChangeAt Go.RowKit

/-- What a batch holds. -/
structure Btc where
  lsn : Int
  prev : Int
  parts : List Ptc
def BatV (w : World) (x : Array Value) (t : Btc) : Prop := ∃ a p, x = #[.int .i64 t.lsn, .int .i64 t.prev, .slice a t.parts.length p] ∧ PartsV w (.slice a t.parts.length p) t.parts
theorem BatV.on {w w' : World} {x : Array Value} {t : Btc} (h : BatV w x t) (b : Below w.heap.size w w') : BatV w' x t := by
  obtain ⟨a, p, e, h⟩ := h; exact ⟨a, p, e, h.on b⟩
def Btc.fit (t : Btc) : Prop := pfits t.parts
def Btc.few (t : Btc) : Prop := pfews t.parts

set_option maxRecDepth 100000 in
set_option maxHeartbeats 1000000 in
/-- laws.szBatch -/
theorem szBatch_any (x : Array Value) (t : Btc) (l : Int) (w : World) (hx : BatV w x t) (hf : t.fit) (h0 : 0 ≤ l) (h1 : l ≤ 1048576) :
    Calls Try.prog 15 #[.agg x, .int .i64 l] w fun e w' => ∃ r : Int, e = .returned (.int .i64 r) ∧ Below w.heap.size w w' ∧ (r = -1 ∨ (0 ≤ r ∧ r ≤ l ∧ t.few)) := by
  obtain ⟨a, p, rfl, hs⟩ := hx
  have HS : Hid (PartsV w (.slice a t.parts.length p) t.parts) := hs
  have HF : Hid (pfits t.parts) := hf
  clear hs hf
  go_enter Try.func15, Try.ntmps15
  go_wp2_with fail
  refine (szPartS_any _ t.parts l _ (HS.out.on (by repeat (first | with_reducible exact Below.refl _ _ | with_reducible assumption | with_reducible refine ch_alloc ?_ _ | with_reducible refine Below.drew ?_ | with_reducible refine below_draws _ ?_ | (with_reducible refine Below.setCell ?_ ?_ _; rotate_left; focus (first | with_reducible exact Nat.le_refl _ | (simp; done) | (simp; omega) | (simp at *; omega))) | with_reducible refine ch_trans ?_ (by with_reducible assumption)))) HF.out h0 h1).mono ?_
  rintro e w1 ⟨r, rfl, b1, hr⟩
  rcases hr with rfl | ⟨r0, r1, r2⟩
  · go_wp2
    go_ret
    exact ⟨_, rfl, (by repeat (first | with_reducible exact Below.refl _ _ | with_reducible assumption | with_reducible refine ch_alloc ?_ _ | with_reducible refine Below.drew ?_ | with_reducible refine below_draws _ ?_ | (with_reducible refine Below.setCell ?_ ?_ _; rotate_left; focus (first | with_reducible exact Nat.le_refl _ | (simp; done) | (simp; omega) | (simp at *; omega))) | with_reducible refine ch_trans ?_ (by with_reducible assumption))), Or.inl rfl⟩
  · have HR : Hid t.few := r2
    clear r2
    go_wp2
    go_ret
    exact ⟨_, rfl, (by repeat (first | with_reducible exact Below.refl _ _ | with_reducible assumption | with_reducible refine ch_alloc ?_ _ | with_reducible refine Below.drew ?_ | with_reducible refine below_draws _ ?_ | (with_reducible refine Below.setCell ?_ ?_ _; rotate_left; focus (first | with_reducible exact Nat.le_refl _ | (simp; done) | (simp; omega) | (simp at *; omega))) | with_reducible refine ch_trans ?_ (by with_reducible assumption))), Or.inr ⟨r0, r1, HR.out⟩⟩

set_option maxRecDepth 100000 in
set_option maxHeartbeats 1000000 in
/-- laws.eqBatch -/
theorem eqBatch_same (x y : Array Value) (t : Btc) (w : World) (hx : BatV w x t) (hy : BatV w y t) : Calls Try.prog 20 #[.agg x, .agg y] w fun e w' => e = .returned (.bool true) ∧ Below w.heap.size w w' := by
  obtain ⟨a, p, rfl, hs⟩ := hx
  obtain ⟨b, q, rfl, hs1⟩ := hy
  have HS : Hid (PartsV w (.slice a t.parts.length p) t.parts) := hs
  have HS1 : Hid (PartsV w (.slice b t.parts.length q) t.parts) := hs1
  clear hs hs1
  go_enter Try.func20, Try.ntmps20
  go_wp2_with fail
  refine (eqPartS_same _ _ t.parts _ (HS.out.on (by repeat (first | with_reducible exact Below.refl _ _ | with_reducible assumption | with_reducible refine ch_alloc ?_ _ | with_reducible refine Below.drew ?_ | with_reducible refine below_draws _ ?_ | (with_reducible refine Below.setCell ?_ ?_ _; rotate_left; focus (first | with_reducible exact Nat.le_refl _ | (simp; done) | (simp; omega) | (simp at *; omega))) | with_reducible refine ch_trans ?_ (by with_reducible assumption)))) (HS1.out.on (by repeat (first | with_reducible exact Below.refl _ _ | with_reducible assumption | with_reducible refine ch_alloc ?_ _ | with_reducible refine Below.drew ?_ | with_reducible refine below_draws _ ?_ | (with_reducible refine Below.setCell ?_ ?_ _; rotate_left; focus (first | with_reducible exact Nat.le_refl _ | (simp; done) | (simp; omega) | (simp at *; omega))) | with_reducible refine ch_trans ?_ (by with_reducible assumption))))).mono ?_
  rintro e w1 ⟨rfl, b1⟩
  go_wp2
  go_ret
  exact ⟨rfl, (by repeat (first | with_reducible exact Below.refl _ _ | with_reducible assumption | with_reducible refine ch_alloc ?_ _ | with_reducible refine Below.drew ?_ | with_reducible refine below_draws _ ?_ | (with_reducible refine Below.setCell ?_ ?_ _; rotate_left; focus (first | with_reducible exact Nat.le_refl _ | (simp; done) | (simp; omega) | (simp at *; omega))) | with_reducible refine ch_trans ?_ (by with_reducible assumption)))⟩

set_option maxRecDepth 100000 in
set_option maxHeartbeats 2000000 in
/-- laws.toBatch -/
theorem toBatch_full (x : Array Value) (t : Btc) (w : World) (hx : BatV w x t) (hf : t.few) :
    Calls Try.prog 17 #[.agg x] w fun e w' => ∃ y, e = .returned (.agg #[.int .i64 t.lsn, .int .i64 t.prev, y]) ∧ Below w.heap.size w w' ∧ Firm w.heap.size (fun u => PartsV u y t.parts ∧ New PartsS w.heap.size u y) w' := by
  obtain ⟨a, p, rfl, hs⟩ := hx
  have HS : Hid (PartsV w (.slice a t.parts.length p) t.parts) := hs
  have HF : Hid (pfews t.parts) := hf
  clear hs hf
  go_enter Try.func17, Try.ntmps17
  go_wp2_with fail
  have hb0 : Below w.heap.size w (((w.alloc (.cells #[.int .i64 t.lsn, .int .i64 t.prev, .slice a t.parts.length p] 46)).alloc (.cells #[.int .i64 0, .int .i64 0, .slice none 0 0] 52)).alloc (.cells #[.int .i64 t.lsn, .int .i64 t.prev, .slice none 0 0] 52)) := (by repeat (first | with_reducible exact Below.refl _ _ | with_reducible assumption | with_reducible refine ch_alloc ?_ _ | with_reducible refine Below.drew ?_ | with_reducible refine below_draws _ ?_ | (with_reducible refine Below.setCell ?_ ?_ _; rotate_left; focus (first | with_reducible exact Nat.le_refl _ | (simp; done) | (simp; omega) | (simp at *; omega))) | with_reducible refine ch_trans ?_ (by with_reducible assumption)))
  have HQ := (Own.at (w.alloc (.cells #[.int .i64 t.lsn, .int .i64 t.prev, .slice a t.parts.length p] 46)) 52 #[.int .i64 0, .int .i64 0, .slice none 0 0] (n := w.heap.size + 1) (by simp)).on (ch_alloc (Below.refl _ _) (.cells #[.int .i64 t.lsn, .int .i64 t.prev, .slice none 0 0] 52))
  have HO := Own.at ((w.alloc (.cells #[.int .i64 t.lsn, .int .i64 t.prev, .slice a t.parts.length p] 46)).alloc (.cells #[.int .i64 0, .int .i64 0, .slice none 0 0] 52)) 52 #[.int .i64 t.lsn, .int .i64 t.prev, .slice none 0 0] (n := w.heap.size + 1 + 1) (by simp)
  have hs0 : w.heap.size + 1 + 1 + 1 ≤ (((w.alloc (.cells #[.int .i64 t.lsn, .int .i64 t.prev, .slice a t.parts.length p] 46)).alloc (.cells #[.int .i64 0, .int .i64 0, .slice none 0 0] 52)).alloc (.cells #[.int .i64 t.lsn, .int .i64 t.prev, .slice none 0 0] 52)).heap.size := by simp
  generalize (((w.alloc (.cells #[.int .i64 t.lsn, .int .i64 t.prev, .slice a t.parts.length p] 46)).alloc (.cells #[.int .i64 0, .int .i64 0, .slice none 0 0] 52)).alloc (.cells #[.int .i64 t.lsn, .int .i64 t.prev, .slice none 0 0] 52)) = u0 at hb0 HQ HO hs0 ⊢
  refine (toPartS_full _ t.parts _ (HS.out.on hb0) HF.out).mono ?_
  rintro e w1 ⟨y, rfl, b1, hy⟩
  obtain ⟨ya, yp, rfl, _, _, _⟩ := hy.out.1.lit
  have HF6 : Hid (Firm (w.heap.size + 1 + 1 + 1) (fun u => PartsV u (.slice ya t.parts.length yp) t.parts ∧ New PartsS w.heap.size u (.slice ya t.parts.length yp)) w1) := (hy.mono hs0).imp fun u ⟨h1, h2⟩ => ⟨h1, h2.mono PartsS.good (by omega)⟩
  have hb1 := ch_trans hb0 b1
  have HO1 := HO.on b1
  have HQ1 := HQ.on b1
  clear hy b1 HO HQ hb0 hs0
  have d0 := HO1.loc 0 (by simp)
  have d1 := HO1.loc 1 (by simp)
  have d2 := HO1.loc 2 (by simp)
  have g0 := HQ1.loc 0 (by simp)
  have g1 := HQ1.loc 1 (by simp)
  have g2 := HQ1.loc 2 (by simp)
  have f2 := HO1.frozen 2
  have i0 := HQ1.frozen 0
  have i1 := HQ1.frozen 1
  have i2 := HQ1.frozen 2
  simp only [List.getElem_toArray, List.getElem_cons_zero, List.getElem_cons_succ] at d0 d1 d2 g0 g1 g2
  go_wp2
  have HQ4 : Own ((((w1.setCell ⟨w.heap.size + 1 + 1, 2, none⟩ (.slice ya t.parts.length yp)).setCell ⟨w.heap.size + 1, 0, none⟩ (.int .i64 t.lsn)).setCell ⟨w.heap.size + 1, 1, none⟩ (.int .i64 t.prev)).setCell ⟨w.heap.size + 1, 2, none⟩ (.slice ya t.parts.length yp)) _ _ #[.int .i64 t.lsn, .int .i64 t.prev, .slice ya t.parts.length yp] := (Own.past (c := w.heap.size + 1 + 1) (by omega) [.slice ya t.parts.length yp] _ 2 HQ1).fill (old := [_, _, _]) [.int .i64 t.lsn, .int .i64 t.prev, .slice ya t.parts.length yp] rfl
  have HF7 : Hid (Firm (w.heap.size + 1 + 1 + 1) (fun u => PartsV u (.slice ya t.parts.length yp) t.parts ∧ New PartsS w.heap.size u (.slice ya t.parts.length yp)) ((((w1.setCell ⟨w.heap.size + 1 + 1, 2, none⟩ (.slice ya t.parts.length yp)).setCell ⟨w.heap.size + 1, 0, none⟩ (.int .i64 t.lsn)).setCell ⟨w.heap.size + 1, 1, none⟩ (.int .i64 t.prev)).setCell ⟨w.heap.size + 1, 2, none⟩ (.slice ya t.parts.length yp))) := Firm.stores (b := w.heap.size + 1) (by omega) [.int .i64 t.lsn, .int .i64 t.prev, .slice ya t.parts.length yp] _ 0 (Firm.stores (b := w.heap.size + 1 + 1) (by omega) [.slice ya t.parts.length yp] _ 2 HF6.out)
  have HB : Hid (Below w.heap.size w ((((w1.setCell ⟨w.heap.size + 1 + 1, 2, none⟩ (.slice ya t.parts.length yp)).setCell ⟨w.heap.size + 1, 0, none⟩ (.int .i64 t.lsn)).setCell ⟨w.heap.size + 1, 1, none⟩ (.int .i64 t.prev)).setCell ⟨w.heap.size + 1, 2, none⟩ (.slice ya t.parts.length yp))) := by
    show Below _ _ _
    exact stores_below (b := w.heap.size + 1) (by omega) [.int .i64 t.lsn, .int .i64 t.prev, .slice ya t.parts.length yp] _ 0 (stores_below (b := w.heap.size + 1 + 1) (by omega) [.slice ya t.parts.length yp] _ 2 hb1)
  generalize ((((w1.setCell ⟨w.heap.size + 1 + 1, 2, none⟩ (.slice ya t.parts.length yp)).setCell ⟨w.heap.size + 1, 0, none⟩ (.int .i64 t.lsn)).setCell ⟨w.heap.size + 1, 1, none⟩ (.int .i64 t.prev)).setCell ⟨w.heap.size + 1, 2, none⟩ (.slice ya t.parts.length yp)) = W at HQ4 HB HF7 ⊢
  have e0 := HQ4.loc 0 (by simp)
  have e1 := HQ4.loc 1 (by simp)
  have e2 := HQ4.loc 2 (by simp)
  simp only [List.getElem_toArray, List.getElem_cons_zero, List.getElem_cons_succ] at e0 e1 e2
  exact bodyPost_ret (v := .agg #[.int .i64 t.lsn, .int .i64 t.prev, .slice ya t.parts.length yp]) (by simp [results, Try.results17, go_sem, e0, e1, e2]) rfl ⟨_, rfl, HB.out, HF7.out.mono (by omega)⟩
end Go.Proofs.Ytbjnonondnemhab

namespace Go.Proofs.Ytbjnonondnemhab
open Go.ChangeShapes Go.WideShapes Go.ChangeAt Go.RowKit

/-- Parts, read, with their shape. -/
def PartsX (w : World) (v : Value) (ts : List Ptc) : Prop := PartsV w v ts ∧ ∃ S, PartsS S w v
theorem PartsX.on {w w' : World} {v : Value} {ts : List Ptc} (h : PartsX w v ts) (b : Below w.heap.size w w') : PartsX w' v ts := by
  obtain ⟨h1, S, h2⟩ := h
  exact ⟨h1.on b, S, PartsS.good.holds S _ _ _ (fun c _ hl => b.block c hl) h2⟩
theorem PartsX.lit {w : World} {v : Value} {ts : List Ptc} (h : PartsX w v ts) : ∃ b cap, v = .slice (some ⟨b, 0, none⟩) ts.length cap ∧ ts.length ≤ cap ∧ cap ≤ maxLen ∧ PartsX w (.slice (some ⟨b, 0, none⟩) ts.length cap) ts := by
  obtain ⟨h1, S, h2⟩ := h
  obtain ⟨a, cap, rfl, g1, g2, g3⟩ := h1.lit
  obtain ⟨b, n, c, e, _, h2'⟩ := h2.lit
  cases e
  exact ⟨b, cap, rfl, g1, g2, g3, S, h2'⟩
theorem PartsX.part {w : World} {b n cap : Nat} {ts : List Ptc} (h : PartsX w (.slice (some ⟨b, 0, none⟩) n cap) ts) (k : Nat) (hk : k < ts.length) : ∃ kb kp rb rp cb cp ob op yb yp zb zp,
    (ValsV w (.slice (some ⟨kb, 0, none⟩) ts[k].st.key.length kp) ts[k].st.key ∧ ValsV w (.slice (some ⟨rb, 0, none⟩) ts[k].st.row.length rp) ts[k].st.row ∧ ColsV w (.slice (some ⟨cb, 0, none⟩) ts[k].st.ddl.cols.length cp) ts[k].st.ddl.cols ∧ StrsV w (.slice (some ⟨ob, 0, none⟩) ts[k].st.ddl.keys.length op) ts[k].st.ddl.keys ∧ StrsV w (.slice (some ⟨yb, 0, none⟩) ts[k].cols.length yp) ts[k].cols ∧ StrsV w (.slice (some ⟨zb, 0, none⟩) ts[k].keys.length zp) ts[k].keys) ∧
    w.cell? ⟨b, k * 12, none⟩ = some (.int .i64 ts[k].st.kind) ∧ w.cell? ⟨b, k * 12 + 1, none⟩ = some (.string ts[k].st.table) ∧ w.cell? ⟨b, k * 12 + 2, none⟩ = some (.slice (some ⟨kb, 0, none⟩) ts[k].st.key.length kp) ∧ w.cell? ⟨b, k * 12 + 3, none⟩ = some (.slice (some ⟨rb, 0, none⟩) ts[k].st.row.length rp) ∧ w.cell? ⟨b, k * 12 + 4, none⟩ = some (.int .i64 ts[k].st.ddl.kind) ∧ w.cell? ⟨b, k * 12 + 5, none⟩ = some (.string ts[k].st.ddl.table) ∧ w.cell? ⟨b, k * 12 + 6, none⟩ = some (.slice (some ⟨cb, 0, none⟩) ts[k].st.ddl.cols.length cp) ∧ w.cell? ⟨b, k * 12 + 7, none⟩ = some (.slice (some ⟨ob, 0, none⟩) ts[k].st.ddl.keys.length op) ∧ w.cell? ⟨b, k * 12 + 8, none⟩ = some (.string ts[k].st.ddl.name) ∧ w.cell? ⟨b, k * 12 + 9, none⟩ = some (.string ts[k].st.ddl.to) ∧ w.cell? ⟨b, k * 12 + 10, none⟩ = some (.slice (some ⟨yb, 0, none⟩) ts[k].cols.length yp) ∧ w.cell? ⟨b, k * 12 + 11, none⟩ = some (.slice (some ⟨zb, 0, none⟩) ts[k].keys.length zp) := by
  obtain ⟨h1, S, h2⟩ := h
  have hn : n = ts.length := by
    obtain ⟨a', cap', e, _⟩ := h1.lit
    simp at e
    exact e.2.1
  obtain ⟨b', off, ka, kp, ra, rp, ca, cp, oa, op, ya, yp, za, zp, ea, hv, d0, d1, d2, d3, d4, d5, d6, d7, d8, d9, d10, d11⟩ := h1.part k hk
  simp only [Option.some.injEq, Addr.mk.injEq] at ea
  obtain ⟨rfl, rfl, _⟩ := ea
  simp only [Nat.zero_add] at d0 d1 d2 d3 d4 d5 d6 d7 d8 d9 d10 d11
  obtain ⟨f, a0, a1, b2, n2, c2, b3, n3, c3, a4, a5, b6, n6, c6, b7, n7, c7, a8, a9, b10, n10, c10, b11, n11, c11, q⟩ := h2.at k (by omega)
  obtain ⟨_, _, _, _, _, _, _, _, _, _, g2, g3, _, _, g6, g7, _, _, g10, g11, _⟩ := q
  have e2 := d2.symm.trans g2
  have e3 := d3.symm.trans g3
  have e6 := d6.symm.trans g6
  have e7 := d7.symm.trans g7
  have e10 := d10.symm.trans g10
  have e11 := d11.symm.trans g11
  simp only [Option.some.injEq, Value.slice.injEq] at e2 e3 e6 e7 e10 e11
  obtain ⟨rfl, rfl, rfl⟩ := e2
  obtain ⟨rfl, rfl, rfl⟩ := e3
  obtain ⟨rfl, rfl, rfl⟩ := e6
  obtain ⟨rfl, rfl, rfl⟩ := e7
  obtain ⟨rfl, rfl, rfl⟩ := e10
  obtain ⟨rfl, rfl, rfl⟩ := e11
  obtain ⟨k', r', c', o', y', z', e, v1, v2, v3, v4, v5, v6⟩ := hv
  simp at e
  obtain ⟨rfl, rfl, rfl, rfl, rfl, rfl⟩ := e
  exact ⟨_, _, _, _, _, _, _, _, _, _, _, _, ⟨v1, v2, v3, v4, v5, v6⟩, d0, d1, d2, d3, d4, d5, d6, d7, d8, d9, d10, d11⟩

set_option maxRecDepth 100000 in
/-- laws.markBatch -/
theorem markBatch_shape (S : Nat → Prop) (n p : Int) (v : Value) (k : Nat) (w : World) (hv : PartsS S w v) (hk : k ≤ 4000000000000000000) :
    Calls Try.prog 21 #[.agg #[.int .i64 n, .int .i64 p, v], .int .i64 k] w fun e w' => ∃ k' : Nat, e = .returned (.int .i64 k') ∧ k' ≤ k + 17592192335872 ∧ Marks S w w' := by
  obtain ⟨b, m, cap, rfl, hn, hv⟩ := hv.lit
  have HM0 : Hid (Marks S w (w.alloc (.cells #[.int .i64 n, .int .i64 p, .slice (some ⟨b, 0, none⟩) m cap] 52))) := (Marks.refl S w).below (ch_alloc (Below.refl _ _) _)
  have HV : Hid (PartsS S (w.alloc (.cells #[.int .i64 n, .int .i64 p, .slice (some ⟨b, 0, none⟩) m cap] 52)) (.slice (some ⟨b, 0, none⟩) m cap)) := PartsS.stays S _ _ _ _ HM0.out (kind1.refl _) hv
  clear hv
  go_enter Try.func21, Try.ntmps21
  go_wp2_with fail
  refine (markPartS_shape S _ k _ HV.out hk).mono ?_
  rintro e w1 ⟨K, rfl, hK, hM⟩
  have HM1 : Hid (Marks S w w1) := HM0.out.trans hM
  clear hM
  go_wp2
  go_ret
  exact ⟨K, rfl, hK, HM1.out⟩
end Go.Proofs.Ytbjnonondnemhab
