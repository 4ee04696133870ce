/- Lists of values in memory: the laws' size, copy and look. -/
import Derived.Test.YtiijahoheajppaaTab
namespace Go.Proofs.Ytiijahoheajppaa
open Go.ChangeShapes Go.WideShapes Go.ChangeAt Go.RowKit

/-- A value's fields. -/
structure Vc where
  ty : Int
  n : Int
  s : ByteArray
abbrev Vc.cells (c : Vc) : Array Value := #[.int .i64 c.ty, .int .i64 c.n, .string c.s]
abbrev Vc.v (c : Vc) : Value := .agg c.cells
theorem RowAt.vals {w : World} {a : Option Addr} {vs : List Vc} (h : RowAt w a 3 (vs.map Vc.cells)) (k : Nat) (hk : k < vs.length) : ∃ b off, a = some ⟨b, off, none⟩ ∧
    w.cell? ⟨b, off + k * 3, none⟩ = some (.int .i64 vs[k].ty) ∧ w.cell? ⟨b, off + k * 3 + 1, none⟩ = some (.int .i64 vs[k].n) ∧ w.cell? ⟨b, off + k * 3 + 2, none⟩ = some (.string vs[k].s) := by
  rcases h.2 with h0 | ⟨b, off, ha, h⟩
  · rw [List.map_eq_nil_iff] at h0; subst h0; exact absurd hk (Nat.not_lt_zero _)
  · have hk' : k < (vs.map Vc.cells).length := by simpa using hk
    have e : (vs.map Vc.cells)[k] = vs[k].cells := by simp
    refine ⟨b, off, ha, (h k hk' 0 (by omega)).trans ?_, (h k hk' 1 (by omega)).trans ?_, (h k hk' 2 (by omega)).trans ?_⟩
    all_goals rw [e]; rfl
theorem Fill.val {w : World} {B : Nat} {T : TypeId} {n k : Nat} {vs : List Vc} (h : Fill w B T 3 n ((vs.take k).map Vc.cells)) (hk : k < vs.length) (hn : k < n) : Fill (stores w B (k * 3) vs[k].cells.toList) B T 3 n ((vs.take (k + 1)).map Vc.cells) := by
  have hl : ((vs.take k).map Vc.cells).length = k := by simp; omega
  have := h.put (by omega) vs[k].cells.toList rfl
  rw [hl] at this
  rw [List.take_succ_eq_append_getElem hk, List.map_append]
  exact this

/-- Values behind a slice. -/
def ValsV (w : World) (v : Value) (vs : List Vc) : Prop := ∃ a cap, v = .slice a vs.length cap ∧ vs.length ≤ cap ∧ cap ≤ maxLen ∧ RowAt w a 3 (vs.map Vc.cells)
theorem ValsV.on {w w' : World} {v : Value} {vs : List Vc} (h : ValsV w v vs) (b : Below w.heap.size w w') : ValsV w' v vs := by
  obtain ⟨a, cap, e, h1, h2, h⟩ := h; exact ⟨a, cap, e, h1, h2, h.on b⟩
theorem ValsV.set {w : World} {v : Value} {vs : List Vc} (h : ValsV w v vs) {B : Nat} (hf : From v B) {p : Addr} (hp : p.block < B) (u : Value) : ValsV (w.setCell p u) v vs := by
  obtain ⟨a, cap, e, h1, h2, h⟩ := h
  exact ⟨a, cap, e, h1, h2, h.set (fun q hq => by subst hq; have := hf _ _ _ e; omega) u⟩
theorem ValsV.lit {w : World} {v : Value} {vs : List Vc} (h : ValsV w v vs) : ∃ a cap, v = .slice a vs.length cap ∧ vs.length ≤ cap ∧ cap ≤ maxLen ∧ ValsV w (.slice a vs.length cap) vs := by
  obtain ⟨a, cap, rfl, h1, h2, h3⟩ := h; exact ⟨a, cap, rfl, h1, h2, a, cap, rfl, h1, h2, h3⟩
theorem ValsV.row {w : World} {a : Option Addr} {n cap : Nat} {vs : List Vc} (h : ValsV w (.slice a n cap) vs) : RowAt w a 3 (vs.map Vc.cells) := by
  obtain ⟨a', cap', e, _, _, h⟩ := h; cases e; exact h
def vfit (vs : List Vc) : Prop := ∀ c ∈ vs, c.s.size ≤ maxLen

theorem szVal_any (ty n : Int) (s : ByteArray) (l : Int) (w : World) (hs : s.size ≤ maxLen) (h0 : 0 ≤ l) (h1 : l ≤ 1048576) : Calls Try.prog 43 #[V ty n s, .int .i64 l] w fun e w' => ∃ r : Int, e = .returned (.int .i64 r) ∧ Below w.heap.size w w' ∧ (r = -1 ∨ (0 ≤ r ∧ r ≤ l)) := by
  by_cases h : l < s.size
  · exact (sz_no ty n s l w hs h0 h).mono fun e w' ⟨he, hw⟩ => ⟨_, he, hw ▸ (by repeat (first | with_reducible exact Below.refl _ _ | with_reducible assumption | with_reducible refine ch_alloc ?_ _ | with_reducible refine Below.drew ?_ | with_reducible refine below_draws _ ?_ | (with_reducible refine Below.setCell ?_ ?_ _; rotate_left; focus (first | with_reducible exact Nat.le_refl _ | (simp; done) | (simp; omega) | (simp at *; omega))) | with_reducible refine ch_trans ?_ (by with_reducible assumption))), Or.inl rfl⟩
  · exact (sz_yes ty n s l w h1 (by omega)).mono fun e w' ⟨he, hw⟩ => ⟨_, he, hw ▸ (by repeat (first | with_reducible exact Below.refl _ _ | with_reducible assumption | with_reducible refine ch_alloc ?_ _ | with_reducible refine Below.drew ?_ | with_reducible refine below_draws _ ?_ | (with_reducible refine Below.setCell ?_ ?_ _; rotate_left; focus (first | with_reducible exact Nat.le_refl _ | (simp; done) | (simp; omega) | (simp at *; omega))) | with_reducible refine ch_trans ?_ (by with_reducible assumption))), Or.inr ⟨by omega, by omega⟩⟩

set_option maxRecDepth 100000 in
set_option maxHeartbeats 1000000 in
/-- laws.szValS -/
theorem szValS_any (v : Value) (vs : List Vc) (l : Int) (w : World) (hc : ValsV w v vs) (hk : vfit vs) (h0 : 0 ≤ l) (h1 : l ≤ 1048576) :
    Calls Try.prog 14 #[v, .int .i64 l] w fun e w' => ∃ r : Int, e = .returned (.int .i64 r) ∧ Below w.heap.size w w' ∧ (r = -1 ∨ (0 ≤ r ∧ r ≤ l ∧ vs.length ≤ 1048576)) := by
  obtain ⟨a, cap, rfl, hl, hm, hc⟩ := hc
  unfold maxLen at hm
  have HC : Hid (RowAt w a 3 (vs.map Vc.cells)) := hc
  have HK : Hid (vfit vs) := hk
  clear hc hk
  by_cases hn : l < vs.length
  · go_enter Try.func14, Try.ntmps14
    go_wp2
    go_ret
    exact ⟨_, rfl, (by repeat (first | with_reducible exact Below.refl _ _ | with_reducible assumption | with_reducible refine ch_alloc ?_ _ | with_reducible refine Below.drew ?_ | with_reducible refine below_draws _ ?_ | (with_reducible refine Below.setCell ?_ ?_ _; rotate_left; focus (first | with_reducible exact Nat.le_refl _ | (simp; done) | (simp; omega) | (simp at *; omega))) | with_reducible refine ch_trans ?_ (by with_reducible assumption))), Or.inl rfl⟩
  have hn' : vs.length ≤ 1048576 := by omega
  go_enter Try.func14, Try.ntmps14
  go_wp2
  go_loopw [1, 5] (fun b i wr => ∃ (k : Nat) (r : Int), k ≤ vs.length ∧ i = .int .i64 k ∧ b = .int .i64 r ∧ 0 ≤ r ∧ r ≤ l ∧ Below w.heap.size w wr) (fun _ i _ => vs.length - (intOf i).toNat)
  case atStart => exact ⟨0, _, Nat.zero_le _, rfl, rfl, by omega, by omega, (by repeat (first | with_reducible exact Below.refl _ _ | with_reducible assumption | with_reducible refine ch_alloc ?_ _ | with_reducible refine Below.drew ?_ | with_reducible refine below_draws _ ?_ | (with_reducible refine Below.setCell ?_ ?_ _; rotate_left; focus (first | with_reducible exact Nat.le_refl _ | (simp; done) | (simp; omega) | (simp at *; omega))) | with_reducible refine ch_trans ?_ (by with_reducible assumption)))⟩
  case round =>
    obtain ⟨k, r, hk, rfl, rfl, hr0, hr1, hb⟩ := hrel
    by_cases hlt : k < vs.length
    · have hlti : (k : Int) < vs.length := by omega
      obtain ⟨b, off, rfl, c0, c1, c2⟩ := (HC.out.on hb).vals k hlt
      have HS : Hid (∀ w : World, Calls Try.prog 43 #[V vs[k].ty vs[k].n vs[k].s, .int .i64 r] w fun e w' => ∃ q : Int, e = .returned (.int .i64 q) ∧ Below w.heap.size w w' ∧ (q = -1 ∨ (0 ≤ q ∧ q ≤ r))) := fun w => szVal_any _ _ _ r w (HK.out _ (List.getElem_mem hlt)) hr0 (by omega)
      go_wp2_with fail
      refine (HS.out _).mono ?_
      rintro e w1 ⟨q, rfl, b1, hq⟩
      rcases hq with rfl | ⟨h5, h6⟩
      · go_wp2
        go_ret
        exact ⟨_, rfl, (by repeat (first | with_reducible exact Below.refl _ _ | with_reducible assumption | with_reducible refine ch_alloc ?_ _ | with_reducible refine Below.drew ?_ | with_reducible refine below_draws _ ?_ | (with_reducible refine Below.setCell ?_ ?_ _; rotate_left; focus (first | with_reducible exact Nat.le_refl _ | (simp; done) | (simp; omega) | (simp at *; omega))) | with_reducible refine ch_trans ?_ (by with_reducible assumption))), Or.inl rfl⟩
      · go_wp2
        go_round
        case rel => exact ⟨k + 1, q, by omega, by go_num, rfl, h5, by omega, (by repeat (first | with_reducible exact Below.refl _ _ | with_reducible assumption | with_reducible refine ch_alloc ?_ _ | with_reducible refine Below.drew ?_ | with_reducible refine below_draws _ ?_ | (with_reducible refine Below.setCell ?_ ?_ _; rotate_left; focus (first | with_reducible exact Nat.le_refl _ | (simp; done) | (simp; omega) | (simp at *; omega))) | with_reducible refine ch_trans ?_ (by with_reducible assumption)))⟩
        case measure => simp [intOf]; omega
    · have hlti : (vs.length : Int) ≤ k := by omega
      go_wp2
      go_ret
      exact ⟨_, rfl, (by repeat (first | with_reducible exact Below.refl _ _ | with_reducible assumption | with_reducible refine ch_alloc ?_ _ | with_reducible refine Below.drew ?_ | with_reducible refine below_draws _ ?_ | (with_reducible refine Below.setCell ?_ ?_ _; rotate_left; focus (first | with_reducible exact Nat.le_refl _ | (simp; done) | (simp; omega) | (simp at *; omega))) | with_reducible refine ch_trans ?_ (by with_reducible assumption))), Or.inr ⟨hr0, hr1, hn'⟩⟩

set_option maxRecDepth 100000 in
set_option maxHeartbeats 1000000 in
/-- laws.toValS -/
theorem toValS_any (v : Value) (vs : List Vc) (w : World) (hc : ValsV w v vs) (hn : vs.length ≤ 1048576) :
    Calls Try.prog 16 #[v] w fun e w' => e = .returned (.slice (some ⟨w.heap.size, 0, none⟩) vs.length vs.length) ∧ Below w.heap.size w w' ∧ Fill w' w.heap.size 58 3 vs.length (vs.map Vc.cells) := by
  obtain ⟨a, cap, rfl, hl, hm, hc⟩ := hc
  unfold maxLen at hm
  have HC : Hid (RowAt w a 3 (vs.map Vc.cells)) := hc
  clear hc
  have hmk := run_makes (P := Try.prog) 39 58 (.agg #[.int .i64 0, .int .i64 0, .string ByteArray.empty]) _ 3 32 Try.underlying39 (by kernel_rfl) rfl .i64 .i64 vs.length (by omega) (by omega)
  go_enter Try.func16, Try.ntmps16
  go_wp2
  have HF : Hid (Fill (w.alloc (.cells (madeCells #[.int .i64 0, .int .i64 0, .string ByteArray.empty] (vs.length * 3)) 58)) w.heap.size 58 3 vs.length ((vs.take 0).map Vc.cells)) := Fill.new w _ 3 vs.length _ (size_madeCells _ _)
  go_loopw [4] (fun i wr => ∃ k : Nat, k ≤ vs.length ∧ i = .int .i64 k ∧ Below w.heap.size w wr ∧ Hid (Fill wr w.heap.size 58 3 vs.length ((vs.take k).map Vc.cells))) (fun i _ => vs.length - (intOf i).toNat)
  case atStart => exact ⟨0, Nat.zero_le _, rfl, (by repeat (first | with_reducible exact Below.refl _ _ | with_reducible assumption | with_reducible refine ch_alloc ?_ _ | with_reducible refine Below.drew ?_ | with_reducible refine below_draws _ ?_ | (with_reducible refine Below.setCell ?_ ?_ _; rotate_left; focus (first | with_reducible exact Nat.le_refl _ | (simp; done) | (simp; omega) | (simp at *; omega))) | with_reducible refine ch_trans ?_ (by with_reducible assumption))), HF⟩
  case round =>
    clear HF
    obtain ⟨k, hk, rfl, hb, HF⟩ := hrel
    by_cases hlt : k < vs.length
    · have hlti : (k : Int) < vs.length := by omega
      obtain ⟨b, off, rfl, c0, c1, c2⟩ := (HC.out.on hb).vals k hlt
      have HS : Hid (∀ w : World, Calls Try.prog 45 #[V vs[k].ty vs[k].n vs[k].s] w fun e w' => e = .returned (V vs[k].ty vs[k].n vs[k].s) ∧ Below w.heap.size w w') := fun w => (toVal_any _ _ _ w).mono fun e w' ⟨he, hw⟩ => ⟨he, hw ▸ (by repeat (first | with_reducible exact Below.refl _ _ | with_reducible assumption | with_reducible refine ch_alloc ?_ _ | with_reducible refine Below.drew ?_ | with_reducible refine below_draws _ ?_ | (with_reducible refine Below.setCell ?_ ?_ _; rotate_left; focus (first | with_reducible exact Nat.le_refl _ | (simp; done) | (simp; omega) | (simp at *; omega))) | with_reducible refine ch_trans ?_ (by with_reducible assumption)))⟩
      go_wp2_with (go_at_call 45; refine (HS.out _).mono ?_; rintro e w1 ⟨rfl, b1⟩
                   obtain ⟨v0, v1, v2, ⟨g0, g1, g2⟩, f0, f1, f2⟩ := (HF.out.on b1).three (k := k) (by simp; omega) hlt)
      have HF' : Hid (Fill (stores w1 w.heap.size (k * 3) vs[k].cells.toList) w.heap.size 58 3 vs.length ((vs.take (k + 1)).map Vc.cells)) := (HF.out.on b1).val hlt hlt
      go_round
      case rel => exact ⟨k + 1, by omega, by go_num, (by repeat (first | with_reducible exact Below.refl _ _ | with_reducible assumption | with_reducible refine ch_alloc ?_ _ | with_reducible refine Below.drew ?_ | with_reducible refine below_draws _ ?_ | (with_reducible refine Below.setCell ?_ ?_ _; rotate_left; focus (first | with_reducible exact Nat.le_refl _ | (simp; done) | (simp; omega) | (simp at *; omega))) | with_reducible refine ch_trans ?_ (by with_reducible assumption))), HF'⟩
      case measure => simp [intOf]; omega
    · have hlti : (vs.length : Int) ≤ k := by omega
      have HR : Hid (Fill wr w.heap.size 58 3 vs.length (vs.map Vc.cells)) := by
        have := HF.out
        rwa [List.take_of_length_le (by omega)] at this
      go_wp2
      go_ret
      exact ⟨rfl, (by repeat (first | with_reducible exact Below.refl _ _ | with_reducible assumption | with_reducible refine ch_alloc ?_ _ | with_reducible refine Below.drew ?_ | with_reducible refine below_draws _ ?_ | (with_reducible refine Below.setCell ?_ ?_ _; rotate_left; focus (first | with_reducible exact Nat.le_refl _ | (simp; done) | (simp; omega) | (simp at *; omega))) | with_reducible refine ch_trans ?_ (by with_reducible assumption))), HR.out.on (by repeat (first | with_reducible exact Below.refl _ _ | with_reducible assumption | with_reducible refine ch_alloc ?_ _ | with_reducible refine Below.drew ?_ | with_reducible refine below_draws _ ?_ | (with_reducible refine Below.setCell ?_ ?_ _; rotate_left; focus (first | with_reducible exact Nat.le_refl _ | (simp; done) | (simp; omega) | (simp at *; omega))) | with_reducible refine ch_trans ?_ (by with_reducible assumption)))⟩
theorem Fill.valsV {w : World} {B n : Nat} {T : TypeId} {vs : List Vc} (h : Fill w B T 3 n (vs.map Vc.cells)) (hn : n ≤ maxLen) : ValsV w (.slice (some ⟨B, 0, none⟩) vs.length n) vs :=
  ⟨_, _, rfl, by have := h.2.1; simpa using this, hn, h.row⟩

set_option maxRecDepth 100000 in
set_option maxHeartbeats 1000000 in
/-- laws.eqValS -/
theorem eqValS_same (av bv : Value) (vs : List Vc) (w : World) (ha : ValsV w av vs) (hb : ValsV w bv vs) : Calls Try.prog 19 #[av, bv] w fun e w' => e = .returned (.bool true) ∧ Below w.heap.size w w' := by
  obtain ⟨a, cap, rfl, hl, hm, hc⟩ := ha
  obtain ⟨a', cap', rfl, hl', hm', hc'⟩ := hb
  unfold maxLen at hm
  have HC : Hid (RowAt w a 3 (vs.map Vc.cells)) := hc
  have HC' : Hid (RowAt w a' 3 (vs.map Vc.cells)) := hc'
  clear hc hc' hm' hl'
  go_enter Try.func19, Try.ntmps19
  go_wp2
  go_loopw [5] (fun i wr => ∃ k : Nat, k ≤ vs.length ∧ i = .int .i64 k ∧ Below w.heap.size w wr) (fun i _ => vs.length - (intOf i).toNat)
  case atStart => exact ⟨0, Nat.zero_le _, rfl, (by repeat (first | with_reducible exact Below.refl _ _ | with_reducible assumption | with_reducible refine ch_alloc ?_ _ | with_reducible refine Below.drew ?_ | with_reducible refine below_draws _ ?_ | (with_reducible refine Below.setCell ?_ ?_ _; rotate_left; focus (first | with_reducible exact Nat.le_refl _ | (simp; done) | (simp; omega) | (simp at *; omega))) | with_reducible refine ch_trans ?_ (by with_reducible assumption)))⟩
  case round =>
    obtain ⟨k, hk, rfl, hb⟩ := hrel
    by_cases hlt : k < vs.length
    · have hlti : (k : Int) < vs.length := by omega
      obtain ⟨b, off, rfl, c0, c1, c2⟩ := (HC.out.on hb).vals k hlt
      obtain ⟨b', off', rfl, d0, d1, d2⟩ := (HC'.out.on hb).vals k hlt
      have HS : Hid (∀ w : World, Calls Try.prog 48 #[V vs[k].ty vs[k].n vs[k].s, V vs[k].ty vs[k].n vs[k].s] w fun e w' => e = .returned (.bool true) ∧ Below w.heap.size w w') := fun w => (eqVal_same _ _ _ w).mono fun e w' ⟨he, hw⟩ => ⟨he, hw ▸ (by repeat (first | with_reducible exact Below.refl _ _ | with_reducible assumption | with_reducible refine ch_alloc ?_ _ | with_reducible refine Below.drew ?_ | with_reducible refine below_draws _ ?_ | (with_reducible refine Below.setCell ?_ ?_ _; rotate_left; focus (first | with_reducible exact Nat.le_refl _ | (simp; done) | (simp; omega) | (simp at *; omega))) | with_reducible refine ch_trans ?_ (by with_reducible assumption)))⟩
      go_wp2_with fail
      go_region_with (go_at_call 48; refine (HS.out _).mono ?_; rintro e w1 ⟨rfl, b1⟩)
      all_goals
        go_wp2
        go_round
        case rel => exact ⟨k + 1, by omega, by go_num, (by repeat (first | with_reducible exact Below.refl _ _ | with_reducible assumption | with_reducible refine ch_alloc ?_ _ | with_reducible refine Below.drew ?_ | with_reducible refine below_draws _ ?_ | (with_reducible refine Below.setCell ?_ ?_ _; rotate_left; focus (first | with_reducible exact Nat.le_refl _ | (simp; done) | (simp; omega) | (simp at *; omega))) | with_reducible refine ch_trans ?_ (by with_reducible assumption)))⟩
        case measure => simp [intOf]; omega
    · have hlti : (vs.length : Int) ≤ k := by omega
      go_wp2
      go_ret
      exact ⟨rfl, (by repeat (first | with_reducible exact Below.refl _ _ | with_reducible assumption | with_reducible refine ch_alloc ?_ _ | with_reducible refine Below.drew ?_ | with_reducible refine below_draws _ ?_ | (with_reducible refine Below.setCell ?_ ?_ _; rotate_left; focus (first | with_reducible exact Nat.le_refl _ | (simp; done) | (simp; omega) | (simp at *; omega))) | with_reducible refine ch_trans ?_ (by with_reducible assumption)))⟩
end Go.Proofs.Ytiijahoheajppaa
