/- A row of values: the laws' size, copy and look. -/
import Derived.Test.YtiijahoheajppabVs
namespace Go.Proofs.Ytiijahoheajppab
open Go.ChangeShapes Go.WideShapes Go.ChangeAt Go.RowKit

theorem Fill.other {w : World} {B : Nat} {T : TypeId} {z n : Nat} {xs : List (Array Value)} (h : Fill w B T z n xs) {p : Addr} (hp : B ≠ p.block) (u : Value) : Fill (w.setCell p u) B T z n xs := by
  obtain ⟨h0, h1, f, hr, hf⟩ := h
  exact ⟨h0, h1, f, hr.of_block (Below.heap_setCell _ _ _ _ hp), hf⟩

set_option maxRecDepth 100000 in
/-- laws.szRow -/
theorem szRow_any (v : Value) (vs : List Vc) (l : Int) (w : World) (hx : ValsV w v vs) (hf : vfit vs) (h0 : 0 ≤ l) (h1 : l ≤ 1048576) :
    Calls Try.prog 103 #[.agg #[v], .int .i64 l] w fun e w' => ∃ r : Int, e = .returned (.int .i64 r) ∧ Below w.heap.size w w' ∧ (r = -1 ∨ (0 ≤ r ∧ r ≤ l ∧ vs.length ≤ 1048576)) := by
  obtain ⟨a, cap, rfl, hl, hm, hx⟩ := hx.lit
  have HX : Hid (ValsV w (.slice a vs.length cap) vs) := hx
  clear hx
  go_enter Try.func103, Try.ntmps103
  go_wp2_with fail
  refine (szValS_any _ vs l _ (HX.out.on (by repeat (first | with_reducible exact Below.refl _ _ | with_reducible assumption | with_reducible refine ch_alloc ?_ _ | with_reducible refine Below.drew ?_ | with_reducible refine below_draws _ ?_ | (with_reducible refine Below.setCell ?_ ?_ _; rotate_left; focus (first | with_reducible exact Nat.le_refl _ | (simp; done) | (simp; omega) | (simp at *; omega))) | with_reducible refine ch_trans ?_ (by with_reducible assumption)))) hf h0 h1).mono ?_
  rintro e w1 ⟨r, rfl, b1, hr⟩
  rcases hr with rfl | ⟨r0, r1, r2⟩
  · go_wp2
    go_ret
    exact ⟨_, rfl, (by repeat (first | with_reducible exact Below.refl _ _ | with_reducible assumption | with_reducible refine ch_alloc ?_ _ | with_reducible refine Below.drew ?_ | with_reducible refine below_draws _ ?_ | (with_reducible refine Below.setCell ?_ ?_ _; rotate_left; focus (first | with_reducible exact Nat.le_refl _ | (simp; done) | (simp; omega) | (simp at *; omega))) | with_reducible refine ch_trans ?_ (by with_reducible assumption))), Or.inl rfl⟩
  · go_wp2
    go_ret
    exact ⟨_, rfl, (by repeat (first | with_reducible exact Below.refl _ _ | with_reducible assumption | with_reducible refine ch_alloc ?_ _ | with_reducible refine Below.drew ?_ | with_reducible refine below_draws _ ?_ | (with_reducible refine Below.setCell ?_ ?_ _; rotate_left; focus (first | with_reducible exact Nat.le_refl _ | (simp; done) | (simp; omega) | (simp at *; omega))) | with_reducible refine ch_trans ?_ (by with_reducible assumption))), Or.inr ⟨r0, r1, r2⟩⟩

set_option maxRecDepth 100000 in
/-- laws.eqRow -/
theorem eqRow_same (av bv : Value) (vs : List Vc) (w : World) (ha : ValsV w av vs) (hb : ValsV w bv vs) : Calls Try.prog 110 #[.agg #[av], .agg #[bv]] w fun e w' => e = .returned (.bool true) ∧ Below w.heap.size w w' := by
  obtain ⟨a, cap, rfl, hl, hm, ha⟩ := ha.lit
  obtain ⟨a', cap', rfl, hl', hm', hb⟩ := hb.lit
  have HC : Hid (ValsV w (.slice a vs.length cap) vs) := ha
  have HC' : Hid (ValsV w (.slice a' vs.length cap') vs) := hb
  clear ha hb
  go_enter Try.func110, Try.ntmps110
  go_wp2_with fail
  refine (eqValS_same _ _ vs _ (HC.out.on (by repeat (first | with_reducible exact Below.refl _ _ | with_reducible assumption | with_reducible refine ch_alloc ?_ _ | with_reducible refine Below.drew ?_ | with_reducible refine below_draws _ ?_ | (with_reducible refine Below.setCell ?_ ?_ _; rotate_left; focus (first | with_reducible exact Nat.le_refl _ | (simp; done) | (simp; omega) | (simp at *; omega))) | with_reducible refine ch_trans ?_ (by with_reducible assumption)))) (HC'.out.on (by repeat (first | with_reducible exact Below.refl _ _ | with_reducible assumption | with_reducible refine ch_alloc ?_ _ | with_reducible refine Below.drew ?_ | with_reducible refine below_draws _ ?_ | (with_reducible refine Below.setCell ?_ ?_ _; rotate_left; focus (first | with_reducible exact Nat.le_refl _ | (simp; done) | (simp; omega) | (simp at *; omega))) | with_reducible refine ch_trans ?_ (by with_reducible assumption))))).mono ?_
  rintro e w1 ⟨rfl, b1⟩
  go_wp2
  go_ret
  exact ⟨rfl, (by repeat (first | with_reducible exact Below.refl _ _ | with_reducible assumption | with_reducible refine ch_alloc ?_ _ | with_reducible refine Below.drew ?_ | with_reducible refine below_draws _ ?_ | (with_reducible refine Below.setCell ?_ ?_ _; rotate_left; focus (first | with_reducible exact Nat.le_refl _ | (simp; done) | (simp; omega) | (simp at *; omega))) | with_reducible refine ch_trans ?_ (by with_reducible assumption)))⟩

set_option maxRecDepth 100000 in
set_option maxHeartbeats 1000000 in
/-- laws.toRow -/
theorem toRow_any (v : Value) (vs : List Vc) (w : World) (hx : ValsV w v vs) (hn : vs.length ≤ 1048576) :
    Calls Try.prog 107 #[.agg #[v]] w fun e w' => ∃ B, e = .returned (.agg #[.slice (some ⟨B, 0, none⟩) vs.length vs.length]) ∧ w.heap.size ≤ B ∧ Below w.heap.size w w' ∧ Fill w' B 56 3 vs.length (vs.map Vc.cells) := by
  obtain ⟨a, cap, rfl, hl, hm, hx⟩ := hx.lit
  have HX : Hid (ValsV w (.slice a vs.length cap) vs) := hx
  clear hx
  go_enter Try.func107, Try.ntmps107
  go_wp2_with fail
  refine (toValS_any _ vs _ (HX.out.on (by repeat (first | with_reducible exact Below.refl _ _ | with_reducible assumption | with_reducible refine ch_alloc ?_ _ | with_reducible refine Below.drew ?_ | with_reducible refine below_draws _ ?_ | (with_reducible refine Below.setCell ?_ ?_ _; rotate_left; focus (first | with_reducible exact Nat.le_refl _ | (simp; done) | (simp; omega) | (simp at *; omega))) | with_reducible refine ch_trans ?_ (by with_reducible assumption)))) hn).mono ?_
  rintro e w1 ⟨rfl, b1, hf⟩
  have HO : Own w1 (w.heap.size + 1 + 1) 52 #[.slice none 0 0] := (Own.at ((w.alloc (.cells #[.slice a vs.length cap] 157)).alloc (.cells #[.slice none 0 0] 52)) _ _ (by simp)).on b1
  have HQ : Own w1 (w.heap.size + 1) 52 #[.slice none 0 0] := ((Own.at (w.alloc (.cells #[.slice a vs.length cap] 157)) _ _ (by simp)).on (ch_alloc (Below.refl _ _) _)).on b1
  have HF : Hid (Fill w1 (w.heap.size + 1 + 1 + 1) 56 3 vs.length (vs.map Vc.cells)) := by
    have h3 : (((w.alloc (.cells #[.slice a vs.length cap] 157)).alloc (.cells #[.slice none 0 0] 52)).alloc (.cells #[.slice none 0 0] 52)).heap.size = w.heap.size + 1 + 1 + 1 := by simp
    rw [h3] at hf
    exact hf
  clear hf
  have d0 := HO.loc.one
  have f0 := HO.frozen 0
  have g0 := HQ.loc.one
  have i0 := HQ.frozen 0
  go_wp2
  have HQ3 : Own _ _ _ #[.slice (some ⟨w.heap.size + 1 + 1 + 1, 0, none⟩) vs.length vs.length] := ((HQ.other (p := ⟨w.heap.size + 1 + 1, 0, none⟩) (by simp) (.slice (some ⟨w.heap.size + 1 + 1 + 1, 0, none⟩) vs.length vs.length)).set 0 (.slice (some ⟨w.heap.size + 1 + 1 + 1, 0, none⟩) vs.length vs.length))
  have HF3 : Hid (Fill ((w1.setCell ⟨w.heap.size + 1 + 1, 0, none⟩ (.slice (some ⟨w.heap.size + 1 + 1 + 1, 0, none⟩) vs.length vs.length)).setCell ⟨w.heap.size + 1, 0, none⟩ (.slice (some ⟨w.heap.size + 1 + 1 + 1, 0, none⟩) vs.length vs.length)) (w.heap.size + 1 + 1 + 1) 56 3 vs.length (vs.map Vc.cells)) := (HF.out.other (by simp) _).other (by simp; omega) _
  have HB : Hid (Below w.heap.size w ((w1.setCell ⟨w.heap.size + 1 + 1, 0, none⟩ (.slice (some ⟨w.heap.size + 1 + 1 + 1, 0, none⟩) vs.length vs.length)).setCell ⟨w.heap.size + 1, 0, none⟩ (.slice (some ⟨w.heap.size + 1 + 1 + 1, 0, none⟩) vs.length vs.length))) := by
    show Below _ _ _
    exact (by repeat (first | with_reducible exact Below.refl _ _ | with_reducible assumption | with_reducible refine ch_alloc ?_ _ | with_reducible refine Below.drew ?_ | with_reducible refine below_draws _ ?_ | (with_reducible refine Below.setCell ?_ ?_ _; rotate_left; focus (first | with_reducible exact Nat.le_refl _ | (simp; done) | (simp; omega) | (simp at *; omega))) | with_reducible refine ch_trans ?_ (by with_reducible assumption)))
  generalize ((w1.setCell ⟨w.heap.size + 1 + 1, 0, none⟩ (.slice (some ⟨w.heap.size + 1 + 1 + 1, 0, none⟩) vs.length vs.length)).setCell ⟨w.heap.size + 1, 0, none⟩ (.slice (some ⟨w.heap.size + 1 + 1 + 1, 0, none⟩) vs.length vs.length)) = W at HQ3 HB HF3 ⊢
  have e0 := HQ3.loc.one
  exact bodyPost_ret (v := .agg #[.slice (some ⟨w.heap.size + 1 + 1 + 1, 0, none⟩) vs.length vs.length]) (by simp [results, Try.results107, go_sem, e0]) rfl ⟨_, rfl, by omega, HB.out, HF3.out⟩
end Go.Proofs.Ytiijahoheajppab
