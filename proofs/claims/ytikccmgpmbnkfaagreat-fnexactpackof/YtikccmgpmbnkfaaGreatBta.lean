/- Batches in memory: the laws' size, look and copy. -/
import Derived.Test.YtikccmgpmbnkfaaGreatPtb
namespace Go.Proofs.YtikccmgpmbnkfaaGreat
open Go.ChangeShapes Go.WideShapes Go.ChangeAt Go.RowKit

/-- What a batch holds. -/
structure Btc where
  lsn : Int
  prev : Int
  parts : List Ptc
def BatV (w : World) (x : Array Value) (t : Btc) : Prop := ∃ a p, x = #[.int .i64 t.lsn, .int .i64 t.prev, .slice a t.parts.length p] ∧ PartsV w (.slice a t.parts.length p) t.parts
theorem BatV.on {w w' : World} {x : Array Value} {t : Btc} (h : BatV w x t) (b : Below w.heap.size w w') : BatV w' x t := by
  obtain ⟨a, p, e, h⟩ := h; exact ⟨a, p, e, h.on b⟩
def Btc.fit (t : Btc) : Prop := pfits t.parts
def Btc.few (t : Btc) : Prop := pfews t.parts

set_option maxRecDepth 100000 in
set_option maxHeartbeats 1000000 in
/-- laws.szBatch -/
theorem szBatch_any (x : Array Value) (t : Btc) (l : Int) (w : World) (hx : BatV w x t) (hf : t.fit) (h0 : 0 ≤ l) (h1 : l ≤ 1048576) :
    Calls Tryz.prog 6 #[.agg x, .int .i64 l] w fun e w' => ∃ r : Int, e = .returned (.int .i64 r) ∧ Below w.heap.size w w' ∧ (r = -1 ∨ (0 ≤ r ∧ r ≤ l ∧ t.few)) := by
  obtain ⟨a, p, rfl, hs⟩ := hx
  have HS : Hid (PartsV w (.slice a t.parts.length p) t.parts) := hs
  have HF : Hid (pfits t.parts) := hf
  clear hs hf
  go_enter Tryz.func6, Tryz.ntmps6
  go_wp2_with fail
  refine (szPartS_any _ t.parts l _ (HS.out.on (by repeat (first | with_reducible exact Below.refl _ _ | with_reducible assumption | with_reducible refine ch_alloc ?_ _ | with_reducible refine Below.drew ?_ | with_reducible refine below_draws _ ?_ | (with_reducible refine Below.setCell ?_ ?_ _; rotate_left; focus (first | with_reducible exact Nat.le_refl _ | (simp; done) | (simp; omega) | (simp at *; omega))) | with_reducible refine ch_trans ?_ (by with_reducible assumption)))) HF.out h0 h1).mono ?_
  rintro e w1 ⟨r, rfl, b1, hr⟩
  rcases hr with rfl | ⟨r0, r1, r2⟩
  · go_wp2
    go_ret
    exact ⟨_, rfl, (by repeat (first | with_reducible exact Below.refl _ _ | with_reducible assumption | with_reducible refine ch_alloc ?_ _ | with_reducible refine Below.drew ?_ | with_reducible refine below_draws _ ?_ | (with_reducible refine Below.setCell ?_ ?_ _; rotate_left; focus (first | with_reducible exact Nat.le_refl _ | (simp; done) | (simp; omega) | (simp at *; omega))) | with_reducible refine ch_trans ?_ (by with_reducible assumption))), Or.inl rfl⟩
  · have HR : Hid t.few := r2
    clear r2
    go_wp2
    go_ret
    exact ⟨_, rfl, (by repeat (first | with_reducible exact Below.refl _ _ | with_reducible assumption | with_reducible refine ch_alloc ?_ _ | with_reducible refine Below.drew ?_ | with_reducible refine below_draws _ ?_ | (with_reducible refine Below.setCell ?_ ?_ _; rotate_left; focus (first | with_reducible exact Nat.le_refl _ | (simp; done) | (simp; omega) | (simp at *; omega))) | with_reducible refine ch_trans ?_ (by with_reducible assumption))), Or.inr ⟨r0, r1, HR.out⟩⟩

set_option maxRecDepth 100000 in
set_option maxHeartbeats 1000000 in
/-- laws.eqBatch -/
theorem eqBatch_same (x y : Array Value) (t : Btc) (w : World) (hx : BatV w x t) (hy : BatV w y t) : Calls Tryz.prog 11 #[.agg x, .agg y] w fun e w' => e = .returned (.bool true) ∧ Below w.heap.size w w' := by
  obtain ⟨a, p, rfl, hs⟩ := hx
  obtain ⟨b, q, rfl, hs1⟩ := hy
  have HS : Hid (PartsV w (.slice a t.parts.length p) t.parts) := hs
  have HS1 : Hid (PartsV w (.slice b t.parts.length q) t.parts) := hs1
  clear hs hs1
  go_enter Tryz.func11, Tryz.ntmps11
  go_wp2_with fail
  refine (eqPartS_same _ _ t.parts _ (HS.out.on (by repeat (first | with_reducible exact Below.refl _ _ | with_reducible assumption | with_reducible refine ch_alloc ?_ _ | with_reducible refine Below.drew ?_ | with_reducible refine below_draws _ ?_ | (with_reducible refine Below.setCell ?_ ?_ _; rotate_left; focus (first | with_reducible exact Nat.le_refl _ | (simp; done) | (simp; omega) | (simp at *; omega))) | with_reducible refine ch_trans ?_ (by with_reducible assumption)))) (HS1.out.on (by repeat (first | with_reducible exact Below.refl _ _ | with_reducible assumption | with_reducible refine ch_alloc ?_ _ | with_reducible refine Below.drew ?_ | with_reducible refine below_draws _ ?_ | (with_reducible refine Below.setCell ?_ ?_ _; rotate_left; focus (first | with_reducible exact Nat.le_refl _ | (simp; done) | (simp; omega) | (simp at *; omega))) | with_reducible refine ch_trans ?_ (by with_reducible assumption))))).mono ?_
  rintro e w1 ⟨rfl, b1⟩
  go_wp2
  go_ret
  exact ⟨rfl, (by repeat (first | with_reducible exact Below.refl _ _ | with_reducible assumption | with_reducible refine ch_alloc ?_ _ | with_reducible refine Below.drew ?_ | with_reducible refine below_draws _ ?_ | (with_reducible refine Below.setCell ?_ ?_ _; rotate_left; focus (first | with_reducible exact Nat.le_refl _ | (simp; done) | (simp; omega) | (simp at *; omega))) | with_reducible refine ch_trans ?_ (by with_reducible assumption)))⟩

set_option maxRecDepth 100000 in
set_option maxHeartbeats 2000000 in
/-- laws.toBatch -/
theorem toBatch_full (x : Array Value) (t : Btc) (w : World) (hx : BatV w x t) (hf : t.few) :
    Calls Tryz.prog 8 #[.agg x] w fun e w' => ∃ y, e = .returned (.agg #[.int .i64 t.lsn, .int .i64 t.prev, y]) ∧ Below w.heap.size w w' ∧ Firm w.heap.size (fun u => PartsV u y t.parts ∧ New PartsS w.heap.size u y) w' := by
  obtain ⟨a, p, rfl, hs⟩ := hx
  have HS : Hid (PartsV w (.slice a t.parts.length p) t.parts) := hs
  have HF : Hid (pfews t.parts) := hf
  clear hs hf
  go_enter Tryz.func8, Tryz.ntmps8
  go_wp2_with fail
  have hb0 : Below w.heap.size w (((w.alloc (.cells #[.int .i64 t.lsn, .int .i64 t.prev, .slice a t.parts.length p] 24)).alloc (.cells #[.int .i64 0, .int .i64 0, .slice none 0 0] 33)).alloc (.cells #[.int .i64 t.lsn, .int .i64 t.prev, .slice none 0 0] 33)) := (by repeat (first | with_reducible exact Below.refl _ _ | with_reducible assumption | with_reducible refine ch_alloc ?_ _ | with_reducible refine Below.drew ?_ | with_reducible refine below_draws _ ?_ | (with_reducible refine Below.setCell ?_ ?_ _; rotate_left; focus (first | with_reducible exact Nat.le_refl _ | (simp; done) | (simp; omega) | (simp at *; omega))) | with_reducible refine ch_trans ?_ (by with_reducible assumption)))
  have HQ := (Own.at (w.alloc (.cells #[.int .i64 t.lsn, .int .i64 t.prev, .slice a t.parts.length p] 24)) 33 #[.int .i64 0, .int .i64 0, .slice none 0 0] (n := w.heap.size + 1) (by simp)).on (ch_alloc (Below.refl _ _) (.cells #[.int .i64 t.lsn, .int .i64 t.prev, .slice none 0 0] 33))
  have HO := Own.at ((w.alloc (.cells #[.int .i64 t.lsn, .int .i64 t.prev, .slice a t.parts.length p] 24)).alloc (.cells #[.int .i64 0, .int .i64 0, .slice none 0 0] 33)) 33 #[.int .i64 t.lsn, .int .i64 t.prev, .slice none 0 0] (n := w.heap.size + 1 + 1) (by simp)
  have hs0 : w.heap.size + 1 + 1 + 1 ≤ (((w.alloc (.cells #[.int .i64 t.lsn, .int .i64 t.prev, .slice a t.parts.length p] 24)).alloc (.cells #[.int .i64 0, .int .i64 0, .slice none 0 0] 33)).alloc (.cells #[.int .i64 t.lsn, .int .i64 t.prev, .slice none 0 0] 33)).heap.size := by simp
  generalize (((w.alloc (.cells #[.int .i64 t.lsn, .int .i64 t.prev, .slice a t.parts.length p] 24)).alloc (.cells #[.int .i64 0, .int .i64 0, .slice none 0 0] 33)).alloc (.cells #[.int .i64 t.lsn, .int .i64 t.prev, .slice none 0 0] 33)) = u0 at hb0 HQ HO hs0 ⊢
  refine (toPartS_full _ t.parts _ (HS.out.on hb0) HF.out).mono ?_
  rintro e w1 ⟨y, rfl, b1, hy⟩
  obtain ⟨ya, yp, rfl, _, _, _⟩ := hy.out.1.lit
  have HF6 : Hid (Firm (w.heap.size + 1 + 1 + 1) (fun u => PartsV u (.slice ya t.parts.length yp) t.parts ∧ New PartsS w.heap.size u (.slice ya t.parts.length yp)) w1) := (hy.mono hs0).imp fun u ⟨h1, h2⟩ => ⟨h1, h2.mono PartsS.good (by omega)⟩
  have hb1 := ch_trans hb0 b1
  have HO1 := HO.on b1
  have HQ1 := HQ.on b1
  clear hy b1 HO HQ hb0 hs0
  have d0 := HO1.loc 0 (by simp)
  have d1 := HO1.loc 1 (by simp)
  have d2 := HO1.loc 2 (by simp)
  have g0 := HQ1.loc 0 (by simp)
  have g1 := HQ1.loc 1 (by simp)
  have g2 := HQ1.loc 2 (by simp)
  have f2 := HO1.frozen 2
  have i0 := HQ1.frozen 0
  have i1 := HQ1.frozen 1
  have i2 := HQ1.frozen 2
  simp only [List.getElem_toArray, List.getElem_cons_zero, List.getElem_cons_succ] at d0 d1 d2 g0 g1 g2
  go_wp2
  have HQ4 : Own ((((w1.setCell ⟨w.heap.size + 1 + 1, 2, none⟩ (.slice ya t.parts.length yp)).setCell ⟨w.heap.size + 1, 0, none⟩ (.int .i64 t.lsn)).setCell ⟨w.heap.size + 1, 1, none⟩ (.int .i64 t.prev)).setCell ⟨w.heap.size + 1, 2, none⟩ (.slice ya t.parts.length yp)) _ _ #[.int .i64 t.lsn, .int .i64 t.prev, .slice ya t.parts.length yp] := (Own.past (c := w.heap.size + 1 + 1) (by omega) [.slice ya t.parts.length yp] _ 2 HQ1).fill (old := [_, _, _]) [.int .i64 t.lsn, .int .i64 t.prev, .slice ya t.parts.length yp] rfl
  have HF7 : Hid (Firm (w.heap.size + 1 + 1 + 1) (fun u => PartsV u (.slice ya t.parts.length yp) t.parts ∧ New PartsS w.heap.size u (.slice ya t.parts.length yp)) ((((w1.setCell ⟨w.heap.size + 1 + 1, 2, none⟩ (.slice ya t.parts.length yp)).setCell ⟨w.heap.size + 1, 0, none⟩ (.int .i64 t.lsn)).setCell ⟨w.heap.size + 1, 1, none⟩ (.int .i64 t.prev)).setCell ⟨w.heap.size + 1, 2, none⟩ (.slice ya t.parts.length yp))) := Firm.stores (b := w.heap.size + 1) (by omega) [.int .i64 t.lsn, .int .i64 t.prev, .slice ya t.parts.length yp] _ 0 (Firm.stores (b := w.heap.size + 1 + 1) (by omega) [.slice ya t.parts.length yp] _ 2 HF6.out)
  have HB : Hid (Below w.heap.size w ((((w1.setCell ⟨w.heap.size + 1 + 1, 2, none⟩ (.slice ya t.parts.length yp)).setCell ⟨w.heap.size + 1, 0, none⟩ (.int .i64 t.lsn)).setCell ⟨w.heap.size + 1, 1, none⟩ (.int .i64 t.prev)).setCell ⟨w.heap.size + 1, 2, none⟩ (.slice ya t.parts.length yp))) := by
    show Below _ _ _
    exact stores_below (b := w.heap.size + 1) (by omega) [.int .i64 t.lsn, .int .i64 t.prev, .slice ya t.parts.length yp] _ 0 (stores_below (b := w.heap.size + 1 + 1) (by omega) [.slice ya t.parts.length yp] _ 2 hb1)
  generalize ((((w1.setCell ⟨w.heap.size + 1 + 1, 2, none⟩ (.slice ya t.parts.length yp)).setCell ⟨w.heap.size + 1, 0, none⟩ (.int .i64 t.lsn)).setCell ⟨w.heap.size + 1, 1, none⟩ (.int .i64 t.prev)).setCell ⟨w.heap.size + 1, 2, none⟩ (.slice ya t.parts.length yp)) = W at HQ4 HB HF7 ⊢
  have e0 := HQ4.loc 0 (by simp)
  have e1 := HQ4.loc 1 (by simp)
  have e2 := HQ4.loc 2 (by simp)
  simp only [List.getElem_toArray, List.getElem_cons_zero, List.getElem_cons_succ] at e0 e1 e2
  exact bodyPost_ret (v := .agg #[.int .i64 t.lsn, .int .i64 t.prev, .slice ya t.parts.length yp]) (by simp [results, Tryz.results8, go_sem, e0, e1, e2]) rfl ⟨_, rfl, HB.out, HF7.out.mono (by omega)⟩
end Go.Proofs.YtikccmgpmbnkfaaGreat
