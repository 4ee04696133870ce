/- Rows of several tables in memory: the laws' size, copy and look. -/
import Derived.Test.YtiijahoheajppabFm
namespace Go.Proofs.Ytiijahoheajppab
open Go.ChangeShapes Go.WideShapes Go.ChangeAt Go.RowKit

/-- Rows of several tables behind a slice. -/
def DataV (w : World) (v : Value) (ds : List (List (List Vc))) : Prop := ∃ a cap xs, v = .slice a ds.length cap ∧ ds.length ≤ cap ∧ cap ≤ maxLen ∧ RowAt w a 1 (List.map one1 xs) ∧ xs.length = ds.length ∧ ∀ i (h : i < xs.length) (g : i < ds.length), RowsV w xs[i] ds[i]
theorem DataV.on {w w' : World} {v : Value} {ds : List (List (List Vc))} (h : DataV w v ds) (b : Below w.heap.size w w') : DataV w' v ds := by
  obtain ⟨a, cap, xs, e, h1, h2, h3, h4, h5⟩ := h; exact ⟨a, cap, xs, e, h1, h2, h3.on b, h4, fun i h g => (h5 i h g).on b⟩
theorem DataV.lit {w : World} {v : Value} {ds : List (List (List Vc))} (h : DataV w v ds) : ∃ a cap, v = .slice a ds.length cap ∧ ds.length ≤ cap ∧ cap ≤ maxLen ∧ DataV w (.slice a ds.length cap) ds := by
  obtain ⟨a, cap, xs, rfl, h1, h2, h3⟩ := h; exact ⟨a, cap, rfl, h1, h2, a, cap, xs, rfl, h1, h2, h3⟩
theorem DataV.rw {w : World} {a : Option Addr} {n cap : Nat} {ds : List (List (List Vc))} (h : DataV w (.slice a n cap) ds) (k : Nat) (hk : k < ds.length) : ∃ b off c p, a = some ⟨b, off, none⟩ ∧
    w.cell? ⟨b, off + k, none⟩ = some (.slice c ds[k].length p) ∧ RowsV w (.slice c ds[k].length p) ds[k] := by
  obtain ⟨a', cap', xs, e, h1, h2, h3, h4, h5⟩ := h
  cases e
  rcases h3.2 with h0 | ⟨b, off, ha, h⟩
  · rw [List.map_eq_nil_iff] at h0; subst h0; simp at h4; omega
  · obtain ⟨c, p, ex, _, _, hx⟩ := (h5 k (by omega) hk).lit
    have e0 := h k (by simp; omega) 0 (by omega)
    simp only [List.getElem_map, Nat.mul_one, Nat.add_zero] at e0
    rw [ex] at e0
    exact ⟨b, off, c, p, ha, e0, hx⟩
/-- Copied so far. -/
def Dfill (w : World) (B : Nat) (T : TypeId) (ds : List (List (List Vc))) (k : Nat) : Prop := ∃ ys, Fill w B T 1 ds.length (List.map one1 ys) ∧ ys.length = k ∧ ∀ i (h : i < ys.length) (g : i < ds.length), Firm (B + 1) (fun u => RowsV u ys[i] ds[i]) w
theorem Dfill.on {w w' : World} {B : Nat} {T : TypeId} {ds : List (List (List Vc))} {k : Nat} (h : Dfill w B T ds k) (b : Below w.heap.size w w') : Dfill w' B T ds k := by
  obtain ⟨ys, h1, h2, h3⟩ := h
  exact ⟨ys, h1.on b, h2, fun i h g => (h3 i h g).on b⟩
theorem Dfill.put {w : World} {B : Nat} {T : TypeId} {ds : List (List (List Vc))} {k : Nat} (h : Dfill w B T ds k) (hk : k < ds.length) {y : Value} (hy : Firm (B + 1) (fun u => RowsV u y ds[k]) w) : Dfill (stores w B k [y]) B T ds (k + 1) := by
  obtain ⟨ys, h1, rfl, h3⟩ := h
  refine ⟨ys ++ [y], ?_, by simp, fun i h g => ?_⟩
  · have := h1.put (by simpa using hk) [y] rfl
    simpa using this
  · by_cases hi : i < ys.length
    · rw [List.getElem_append_left hi]
      exact Firm.stores (by omega) _ _ _ (h3 i hi g)
    · simp at h
      have : i = ys.length := by omega
      subst this
      simp only [List.getElem_append_right (Nat.le_refl _), Nat.sub_self, List.getElem_cons_zero]
      exact Firm.stores (by omega) _ _ _ hy
theorem Dfill.firm {w : World} {B : Nat} {T : TypeId} {ds : List (List (List Vc))} (h : Dfill w B T ds ds.length) (hm : ds.length ≤ maxLen) : Firm B (fun u => DataV u (.slice (some ⟨B, 0, none⟩) ds.length ds.length) ds) w := by
  obtain ⟨ys, h1, h2, h3⟩ := h
  intro u hu
  exact ⟨_, _, ys, rfl, Nat.le_refl _, hm, (h1.firm (Nat.le_refl _) u hu).row, h2, fun i h g => (h3 i h g) u (hu.mono (by omega))⟩
def dfits (ds : List (List (List Vc))) : Prop := ∀ r ∈ ds, rfits r
def dfews (ds : List (List (List Vc))) : Prop := ds.length ≤ 1048576 ∧ ∀ r ∈ ds, rfews r

set_option maxRecDepth 100000 in
/-- laws.szRows -/
theorem szRows_any (v : Value) (rs : List (List Vc)) (l : Int) (w : World) (hx : RowsV w v rs) (hf : rfits rs) (h0 : 0 ≤ l) (h1 : l ≤ 1048576) :
    Calls Try.prog 42 #[.agg #[v], .int .i64 l] w fun e w' => ∃ r : Int, e = .returned (.int .i64 r) ∧ Below w.heap.size w w' ∧ (r = -1 ∨ (0 ≤ r ∧ r ≤ l ∧ rfews rs)) := by
  obtain ⟨a, cap, rfl, hl, hm, hx⟩ := hx.lit
  have HX : Hid (RowsV w (.slice a rs.length cap) rs) := hx
  clear hx
  go_enter Try.func42, Try.ntmps42
  go_wp2_with fail
  refine (szRowS_any _ rs l _ (HX.out.on (by repeat (first | with_reducible exact Below.refl _ _ | with_reducible assumption | with_reducible refine ch_alloc ?_ _ | with_reducible refine Below.drew ?_ | with_reducible refine below_draws _ ?_ | (with_reducible refine Below.setCell ?_ ?_ _; rotate_left; focus (first | with_reducible exact Nat.le_refl _ | (simp; done) | (simp; omega) | (simp at *; omega))) | with_reducible refine ch_trans ?_ (by with_reducible assumption)))) hf h0 h1).mono ?_
  rintro e w1 ⟨r, rfl, b1, hr⟩
  rcases hr with rfl | ⟨r0, r1, r2⟩
  · go_wp2
    go_ret
    exact ⟨_, rfl, (by repeat (first | with_reducible exact Below.refl _ _ | with_reducible assumption | with_reducible refine ch_alloc ?_ _ | with_reducible refine Below.drew ?_ | with_reducible refine below_draws _ ?_ | (with_reducible refine Below.setCell ?_ ?_ _; rotate_left; focus (first | with_reducible exact Nat.le_refl _ | (simp; done) | (simp; omega) | (simp at *; omega))) | with_reducible refine ch_trans ?_ (by with_reducible assumption))), Or.inl rfl⟩
  · go_wp2
    go_ret
    exact ⟨_, rfl, (by repeat (first | with_reducible exact Below.refl _ _ | with_reducible assumption | with_reducible refine ch_alloc ?_ _ | with_reducible refine Below.drew ?_ | with_reducible refine below_draws _ ?_ | (with_reducible refine Below.setCell ?_ ?_ _; rotate_left; focus (first | with_reducible exact Nat.le_refl _ | (simp; done) | (simp; omega) | (simp at *; omega))) | with_reducible refine ch_trans ?_ (by with_reducible assumption))), Or.inr ⟨r0, r1, r2⟩⟩

set_option maxRecDepth 100000 in
/-- laws.eqRows -/
theorem eqRows_same (av bv : Value) (rs : List (List Vc)) (w : World) (ha : RowsV w av rs) (hb : RowsV w bv rs) : Calls Try.prog 55 #[.agg #[av], .agg #[bv]] w fun e w' => e = .returned (.bool true) ∧ Below w.heap.size w w' := by
  obtain ⟨a, cap, rfl, hl, hm, ha⟩ := ha.lit
  obtain ⟨a', cap', rfl, hl', hm', hb⟩ := hb.lit
  have HC : Hid (RowsV w (.slice a rs.length cap) rs) := ha
  have HC' : Hid (RowsV w (.slice a' rs.length cap') rs) := hb
  clear ha hb
  go_enter Try.func55, Try.ntmps55
  go_wp2_with fail
  refine (eqRowS_same _ _ rs _ (HC.out.on (by repeat (first | with_reducible exact Below.refl _ _ | with_reducible assumption | with_reducible refine ch_alloc ?_ _ | with_reducible refine Below.drew ?_ | with_reducible refine below_draws _ ?_ | (with_reducible refine Below.setCell ?_ ?_ _; rotate_left; focus (first | with_reducible exact Nat.le_refl _ | (simp; done) | (simp; omega) | (simp at *; omega))) | with_reducible refine ch_trans ?_ (by with_reducible assumption)))) (HC'.out.on (by repeat (first | with_reducible exact Below.refl _ _ | with_reducible assumption | with_reducible refine ch_alloc ?_ _ | with_reducible refine Below.drew ?_ | with_reducible refine below_draws _ ?_ | (with_reducible refine Below.setCell ?_ ?_ _; rotate_left; focus (first | with_reducible exact Nat.le_refl _ | (simp; done) | (simp; omega) | (simp at *; omega))) | with_reducible refine ch_trans ?_ (by with_reducible assumption))))).mono ?_
  rintro e w1 ⟨rfl, b1⟩
  go_wp2
  go_ret
  exact ⟨rfl, (by repeat (first | with_reducible exact Below.refl _ _ | with_reducible assumption | with_reducible refine ch_alloc ?_ _ | with_reducible refine Below.drew ?_ | with_reducible refine below_draws _ ?_ | (with_reducible refine Below.setCell ?_ ?_ _; rotate_left; focus (first | with_reducible exact Nat.le_refl _ | (simp; done) | (simp; omega) | (simp at *; omega))) | with_reducible refine ch_trans ?_ (by with_reducible assumption)))⟩

set_option maxRecDepth 100000 in
set_option maxHeartbeats 1000000 in
/-- laws.toRows -/
theorem toRows_any (v : Value) (rs : List (List Vc)) (w : World) (hx : RowsV w v rs) (hn : rfews rs) :
    Calls Try.prog 48 #[.agg #[v]] w fun e w' => ∃ y, e = .returned (.agg #[y]) ∧ Below w.heap.size w w' ∧ Firm w.heap.size (fun u => RowsV u y rs) w' := by
  obtain ⟨a, cap, rfl, hl, hm, hx⟩ := hx.lit
  have HX : Hid (RowsV w (.slice a rs.length cap) rs) := hx
  have hn1 : rs.length ≤ maxLen := by have := hn.1; unfold maxLen; omega
  have HN : Hid (rfews rs) := hn
  clear hx hn
  go_enter Try.func48, Try.ntmps48
  go_wp2_with fail
  refine (toRowS_any _ rs _ (HX.out.on (by repeat (first | with_reducible exact Below.refl _ _ | with_reducible assumption | with_reducible refine ch_alloc ?_ _ | with_reducible refine Below.drew ?_ | with_reducible refine below_draws _ ?_ | (with_reducible refine Below.setCell ?_ ?_ _; rotate_left; focus (first | with_reducible exact Nat.le_refl _ | (simp; done) | (simp; omega) | (simp at *; omega))) | with_reducible refine ch_trans ?_ (by with_reducible assumption)))) HN.out).mono ?_
  rintro e w1 ⟨B, rfl, hB, b1, hf⟩
  have hB3 : w.heap.size + 1 + 1 + 1 ≤ B := by simpa using hB
  have HO : Own w1 (w.heap.size + 1 + 1) 101 #[.slice none 0 0] := (Own.at ((w.alloc (.cells #[.slice a rs.length cap] 94)).alloc (.cells #[.slice none 0 0] 101)) _ _ (by simp)).on b1
  have HQ : Own w1 (w.heap.size + 1) 101 #[.slice none 0 0] := ((Own.at (w.alloc (.cells #[.slice a rs.length cap] 94)) _ _ (by simp)).on (ch_alloc (Below.refl _ _) _)).on b1
  have HF : Hid (Firm (w.heap.size + 1 + 1 + 1) (fun u => RowsV u (.slice (some ⟨B, 0, none⟩) rs.length rs.length) rs) w1) := (hf.firm hn1).mono hB3
  clear hf hB
  have d0 := HO.loc.one
  have f0 := HO.frozen 0
  have g0 := HQ.loc.one
  have i0 := HQ.frozen 0
  go_wp2
  have HQ3 : Own _ _ _ #[.slice (some ⟨B, 0, none⟩) rs.length rs.length] := ((HQ.other (p := ⟨w.heap.size + 1 + 1, 0, none⟩) (by simp) (.slice (some ⟨B, 0, none⟩) rs.length rs.length)).set 0 (.slice (some ⟨B, 0, none⟩) rs.length rs.length))
  have HF3 : Hid (Firm (w.heap.size + 1 + 1 + 1) (fun u => RowsV u (.slice (some ⟨B, 0, none⟩) rs.length rs.length) rs) ((w1.setCell ⟨w.heap.size + 1 + 1, 0, none⟩ (.slice (some ⟨B, 0, none⟩) rs.length rs.length)).setCell ⟨w.heap.size + 1, 0, none⟩ (.slice (some ⟨B, 0, none⟩) rs.length rs.length))) := (HF.out.set (by simp) _).set (by simp) _
  have HB : Hid (Below w.heap.size w ((w1.setCell ⟨w.heap.size + 1 + 1, 0, none⟩ (.slice (some ⟨B, 0, none⟩) rs.length rs.length)).setCell ⟨w.heap.size + 1, 0, none⟩ (.slice (some ⟨B, 0, none⟩) rs.length rs.length))) := by
    show Below _ _ _
    exact (by repeat (first | with_reducible exact Below.refl _ _ | with_reducible assumption | with_reducible refine ch_alloc ?_ _ | with_reducible refine Below.drew ?_ | with_reducible refine below_draws _ ?_ | (with_reducible refine Below.setCell ?_ ?_ _; rotate_left; focus (first | with_reducible exact Nat.le_refl _ | (simp; done) | (simp; omega) | (simp at *; omega))) | with_reducible refine ch_trans ?_ (by with_reducible assumption)))
  generalize ((w1.setCell ⟨w.heap.size + 1 + 1, 0, none⟩ (.slice (some ⟨B, 0, none⟩) rs.length rs.length)).setCell ⟨w.heap.size + 1, 0, none⟩ (.slice (some ⟨B, 0, none⟩) rs.length rs.length)) = W at HQ3 HB HF3 ⊢
  have e0 := HQ3.loc.one
  exact bodyPost_ret (v := .agg #[.slice (some ⟨B, 0, none⟩) rs.length rs.length]) (by simp [results, Try.results48, go_sem, e0]) rfl ⟨_, rfl, HB.out, HF3.out.mono (by omega)⟩

set_option maxRecDepth 100000 in
set_option maxHeartbeats 1000000 in
/-- laws.szRowsS -/
theorem szRowsS_any (v : Value) (ds : List (List (List Vc))) (l : Int) (w : World) (hx : DataV w v ds) (hf : dfits ds) (h0 : 0 ≤ l) (h1 : l ≤ 1048576) :
    Calls Try.prog 20 #[v, .int .i64 l] w fun e w' => ∃ r : Int, e = .returned (.int .i64 r) ∧ Below w.heap.size w w' ∧ (r = -1 ∨ (0 ≤ r ∧ r ≤ l ∧ dfews ds)) := by
  obtain ⟨a, cap, rfl, hl, hm, hx⟩ := hx.lit
  unfold maxLen at hm
  have HX : Hid (DataV w (.slice a ds.length cap) ds) := hx
  have HF : Hid (dfits ds) := hf
  clear hx hf
  by_cases hn : l < ds.length
  · go_enter Try.func20, Try.ntmps20
    go_wp2
    go_ret
    exact ⟨_, rfl, (by repeat (first | with_reducible exact Below.refl _ _ | with_reducible assumption | with_reducible refine ch_alloc ?_ _ | with_reducible refine Below.drew ?_ | with_reducible refine below_draws _ ?_ | (with_reducible refine Below.setCell ?_ ?_ _; rotate_left; focus (first | with_reducible exact Nat.le_refl _ | (simp; done) | (simp; omega) | (simp at *; omega))) | with_reducible refine ch_trans ?_ (by with_reducible assumption))), Or.inl rfl⟩
  have hn' : ds.length ≤ 1048576 := by omega
  go_enter Try.func20, Try.ntmps20
  go_wp2
  go_loopw [1, 5] (fun b i wr => ∃ (k : Nat) (r : Int), k ≤ ds.length ∧ i = .int .i64 k ∧ b = .int .i64 r ∧ 0 ≤ r ∧ r ≤ l ∧ Below w.heap.size w wr ∧ Hid (∀ i (h : i < ds.length), i < k → rfews ds[i])) (fun _ i _ => ds.length - (intOf i).toNat)
  case atStart => exact ⟨0, _, Nat.zero_le _, rfl, rfl, by omega, by omega, (by repeat (first | with_reducible exact Below.refl _ _ | with_reducible assumption | with_reducible refine ch_alloc ?_ _ | with_reducible refine Below.drew ?_ | with_reducible refine below_draws _ ?_ | (with_reducible refine Below.setCell ?_ ?_ _; rotate_left; focus (first | with_reducible exact Nat.le_refl _ | (simp; done) | (simp; omega) | (simp at *; omega))) | with_reducible refine ch_trans ?_ (by with_reducible assumption))), fun i h hi => by omega⟩
  case round =>
    obtain ⟨k, r, hk, rfl, rfl, hr0, hr1, hb, HN⟩ := hrel
    by_cases hlt : k < ds.length
    · have hlti : (k : Int) < ds.length := by omega
      obtain ⟨b, off, c, p, rfl, d0, hx⟩ := (HX.out.on hb).rw k hlt
      have HY : Hid (RowsV wr (.slice c ds[k].length p) ds[k]) := hx
      clear hx
      go_wp2_with fail
      refine (szRows_any _ ds[k] r _ (HY.out.on (by repeat (first | with_reducible exact Below.refl _ _ | with_reducible assumption | with_reducible refine ch_alloc ?_ _ | with_reducible refine Below.drew ?_ | with_reducible refine below_draws _ ?_ | (with_reducible refine Below.setCell ?_ ?_ _; rotate_left; focus (first | with_reducible exact Nat.le_refl _ | (simp; done) | (simp; omega) | (simp at *; omega))) | with_reducible refine ch_trans ?_ (by with_reducible assumption)))) (HF.out _ (List.getElem_mem hlt)) hr0 (by omega)).mono ?_
      rintro e w1 ⟨q, rfl, b1, hq⟩
      rcases hq with rfl | ⟨q0, q1, q2⟩
      · go_wp2
        go_ret
        exact ⟨_, rfl, (by repeat (first | with_reducible exact Below.refl _ _ | with_reducible assumption | with_reducible refine ch_alloc ?_ _ | with_reducible refine Below.drew ?_ | with_reducible refine below_draws _ ?_ | (with_reducible refine Below.setCell ?_ ?_ _; rotate_left; focus (first | with_reducible exact Nat.le_refl _ | (simp; done) | (simp; omega) | (simp at *; omega))) | with_reducible refine ch_trans ?_ (by with_reducible assumption))), Or.inl rfl⟩
      · have HN' : Hid (∀ i (h : i < ds.length), i < k + 1 → rfews ds[i]) := fun i h hi => by
          by_cases e : i = k
          · subst e; exact q2
          · exact HN.out i h (by omega)
        clear q2
        go_wp2
        go_round
        case rel => exact ⟨k + 1, q, by omega, by go_num, rfl, q0, by omega, (by repeat (first | with_reducible exact Below.refl _ _ | with_reducible assumption | with_reducible refine ch_alloc ?_ _ | with_reducible refine Below.drew ?_ | with_reducible refine below_draws _ ?_ | (with_reducible refine Below.setCell ?_ ?_ _; rotate_left; focus (first | with_reducible exact Nat.le_refl _ | (simp; done) | (simp; omega) | (simp at *; omega))) | with_reducible refine ch_trans ?_ (by with_reducible assumption))), HN'⟩
        case measure => simp [intOf]; omega
    · have hlti : (ds.length : Int) ≤ k := by omega
      have HG : Hid (dfews ds) := ⟨hn', fun t ht => by
        obtain ⟨i, hi, rfl⟩ := List.getElem_of_mem ht
        exact HN.out i hi (by omega)⟩
      go_wp2
      go_ret
      exact ⟨_, rfl, (by repeat (first | with_reducible exact Below.refl _ _ | with_reducible assumption | with_reducible refine ch_alloc ?_ _ | with_reducible refine Below.drew ?_ | with_reducible refine below_draws _ ?_ | (with_reducible refine Below.setCell ?_ ?_ _; rotate_left; focus (first | with_reducible exact Nat.le_refl _ | (simp; done) | (simp; omega) | (simp at *; omega))) | with_reducible refine ch_trans ?_ (by with_reducible assumption))), Or.inr ⟨hr0, hr1, HG.out⟩⟩

set_option maxRecDepth 100000 in
set_option maxHeartbeats 1000000 in
/-- laws.eqRowsS -/
theorem eqRowsS_same (av bv : Value) (ds : List (List (List Vc))) (w : World) (ha : DataV w av ds) (hb : DataV w bv ds) : Calls Try.prog 28 #[av, bv] w fun e w' => e = .returned (.bool true) ∧ Below w.heap.size w w' := by
  obtain ⟨a, cap, rfl, hl, hm, ha⟩ := ha.lit
  obtain ⟨a', cap', rfl, hl', hm', hb⟩ := hb.lit
  unfold maxLen at hm
  have HC : Hid (DataV w (.slice a ds.length cap) ds) := ha
  have HC' : Hid (DataV w (.slice a' ds.length cap') ds) := hb
  clear ha hb hm' hl'
  go_enter Try.func28, Try.ntmps28
  go_wp2
  go_loopw [5] (fun i wr => ∃ k : Nat, k ≤ ds.length ∧ i = .int .i64 k ∧ Below w.heap.size w wr) (fun i _ => ds.length - (intOf i).toNat)
  case atStart => exact ⟨0, Nat.zero_le _, rfl, (by repeat (first | with_reducible exact Below.refl _ _ | with_reducible assumption | with_reducible refine ch_alloc ?_ _ | with_reducible refine Below.drew ?_ | with_reducible refine below_draws _ ?_ | (with_reducible refine Below.setCell ?_ ?_ _; rotate_left; focus (first | with_reducible exact Nat.le_refl _ | (simp; done) | (simp; omega) | (simp at *; omega))) | with_reducible refine ch_trans ?_ (by with_reducible assumption)))⟩
  case round =>
    obtain ⟨k, hk, rfl, hb⟩ := hrel
    by_cases hlt : k < ds.length
    · have hlti : (k : Int) < ds.length := by omega
      obtain ⟨b, off, c, p, rfl, d0, hx⟩ := (HC.out.on hb).rw k hlt
      obtain ⟨b', off', c', p', rfl, d0', hx'⟩ := (HC'.out.on hb).rw k hlt
      have HY : Hid (RowsV wr (.slice c ds[k].length p) ds[k]) := hx
      have HY' : Hid (RowsV wr (.slice c' ds[k].length p') ds[k]) := hx'
      clear hx hx'
      go_wp2_with fail
      go_region_with (go_at_call 55; refine (eqRows_same _ _ ds[k] _ (HY.out.on (by repeat (first | with_reducible exact Below.refl _ _ | with_reducible assumption | with_reducible refine ch_alloc ?_ _ | with_reducible refine Below.drew ?_ | with_reducible refine below_draws _ ?_ | (with_reducible refine Below.setCell ?_ ?_ _; rotate_left; focus (first | with_reducible exact Nat.le_refl _ | (simp; done) | (simp; omega) | (simp at *; omega))) | with_reducible refine ch_trans ?_ (by with_reducible assumption)))) (HY'.out.on (by repeat (first | with_reducible exact Below.refl _ _ | with_reducible assumption | with_reducible refine ch_alloc ?_ _ | with_reducible refine Below.drew ?_ | with_reducible refine below_draws _ ?_ | (with_reducible refine Below.setCell ?_ ?_ _; rotate_left; focus (first | with_reducible exact Nat.le_refl _ | (simp; done) | (simp; omega) | (simp at *; omega))) | with_reducible refine ch_trans ?_ (by with_reducible assumption))))).mono ?_; rintro e w1 ⟨rfl, b1⟩)
      all_goals
        go_wp2
        go_round
        case rel => exact ⟨k + 1, by omega, by go_num, (by repeat (first | with_reducible exact Below.refl _ _ | with_reducible assumption | with_reducible refine ch_alloc ?_ _ | with_reducible refine Below.drew ?_ | with_reducible refine below_draws _ ?_ | (with_reducible refine Below.setCell ?_ ?_ _; rotate_left; focus (first | with_reducible exact Nat.le_refl _ | (simp; done) | (simp; omega) | (simp at *; omega))) | with_reducible refine ch_trans ?_ (by with_reducible assumption)))⟩
        case measure => simp [intOf]; omega
    · have hlti : (ds.length : Int) ≤ k := by omega
      go_wp2
      go_ret
      exact ⟨rfl, (by repeat (first | with_reducible exact Below.refl _ _ | with_reducible assumption | with_reducible refine ch_alloc ?_ _ | with_reducible refine Below.drew ?_ | with_reducible refine below_draws _ ?_ | (with_reducible refine Below.setCell ?_ ?_ _; rotate_left; focus (first | with_reducible exact Nat.le_refl _ | (simp; done) | (simp; omega) | (simp at *; omega))) | with_reducible refine ch_trans ?_ (by with_reducible assumption)))⟩

set_option maxRecDepth 100000 in
set_option maxHeartbeats 1000000 in
/-- laws.toRowsS -/
theorem toRowsS_any (v : Value) (ds : List (List (List Vc))) (w : World) (hx : DataV w v ds) (hf : dfews ds) :
    Calls Try.prog 24 #[v] w fun e w' => ∃ B, e = .returned (.slice (some ⟨B, 0, none⟩) ds.length ds.length) ∧ w.heap.size ≤ B ∧ Below w.heap.size w w' ∧ Dfill w' B 101 ds ds.length := by
  obtain ⟨a, cap, rfl, hl, hm, hx⟩ := hx.lit
  unfold maxLen at hm
  have HX : Hid (DataV w (.slice a ds.length cap) ds) := hx
  obtain ⟨hn, hf⟩ := hf
  have HF : Hid (∀ r ∈ ds, rfews r) := hf
  clear hx hf
  have hmk := run_makes (P := Try.prog) 35 101 (.agg #[.slice none 0 0]) _ 1 24 Try.underlying35 (by kernel_rfl) rfl .i64 .i64 ds.length (by omega) (by omega)
  rw [Nat.mul_one] at hmk
  go_enter Try.func24, Try.ntmps24
  go_wp2
  have HT : Hid (Dfill (w.alloc (.cells (madeCells #[.slice none 0 0] ds.length) 101)) w.heap.size 101 ds 0) := ⟨[], Fill.new w _ 1 ds.length _ ((size_madeCells _ _).trans (Nat.mul_one _).symm), rfl, fun i h => by simp at h⟩
  go_loopw [4] (fun i wr => ∃ k : Nat, k ≤ ds.length ∧ i = .int .i64 k ∧ Below w.heap.size w wr ∧ Hid (Dfill wr w.heap.size 101 ds k)) (fun i _ => ds.length - (intOf i).toNat)
  case atStart => exact ⟨0, Nat.zero_le _, rfl, (by repeat (first | with_reducible exact Below.refl _ _ | with_reducible assumption | with_reducible refine ch_alloc ?_ _ | with_reducible refine Below.drew ?_ | with_reducible refine below_draws _ ?_ | (with_reducible refine Below.setCell ?_ ?_ _; rotate_left; focus (first | with_reducible exact Nat.le_refl _ | (simp; done) | (simp; omega) | (simp at *; omega))) | with_reducible refine ch_trans ?_ (by with_reducible assumption))), HT⟩
  case round =>
    clear HT
    obtain ⟨k, hk, rfl, hb, HT⟩ := hrel
    by_cases hlt : k < ds.length
    · have hlti : (k : Int) < ds.length := by omega
      obtain ⟨b, off, c, p, rfl, d0, hx⟩ := (HX.out.on hb).rw k hlt
      have HY : Hid (RowsV wr (.slice c ds[k].length p) ds[k]) := hx
      clear hx
      go_wp2_with fail
      refine (toRows_any _ ds[k] _ (HY.out.on (by repeat (first | with_reducible exact Below.refl _ _ | with_reducible assumption | with_reducible refine ch_alloc ?_ _ | with_reducible refine Below.drew ?_ | with_reducible refine below_draws _ ?_ | (with_reducible refine Below.setCell ?_ ?_ _; rotate_left; focus (first | with_reducible exact Nat.le_refl _ | (simp; done) | (simp; omega) | (simp at *; omega))) | with_reducible refine ch_trans ?_ (by with_reducible assumption)))) (HF.out _ (List.getElem_mem hlt))).mono ?_
      rintro e w1 ⟨y, rfl, b1, hy⟩
      have hB : w.heap.size + 1 ≤ wr.heap.size := by
        obtain ⟨ys, hF, _, _⟩ := HT.out
        exact hF.lt
      have hT1 := HT.out.on b1
      obtain ⟨ay, py, rfl, _⟩ := hy.out.lit
      have HT' : Hid (Dfill (stores w1 w.heap.size k [.slice ay ds[k].length py]) w.heap.size 101 ds (k + 1)) := hT1.put hlt (hy.mono (by omega))
      obtain ⟨ys, hF, hyl, _⟩ := hT1
      obtain ⟨v0, g0, f0⟩ := hF.one (k := k) (by simpa using hyl) hlt
      clear hy hF hyl
      go_wp2
      go_round
      case rel => exact ⟨k + 1, by omega, by go_num, (by repeat (first | with_reducible exact Below.refl _ _ | with_reducible assumption | with_reducible refine ch_alloc ?_ _ | with_reducible refine Below.drew ?_ | with_reducible refine below_draws _ ?_ | (with_reducible refine Below.setCell ?_ ?_ _; rotate_left; focus (first | with_reducible exact Nat.le_refl _ | (simp; done) | (simp; omega) | (simp at *; omega))) | with_reducible refine ch_trans ?_ (by with_reducible assumption))), HT'⟩
      case measure => simp [intOf]; omega
    · have hlti : (ds.length : Int) ≤ k := by omega
      obtain rfl : k = ds.length := by omega
      go_wp2
      go_ret
      exact ⟨_, rfl, Nat.le_refl _, (by repeat (first | with_reducible exact Below.refl _ _ | with_reducible assumption | with_reducible refine ch_alloc ?_ _ | with_reducible refine Below.drew ?_ | with_reducible refine below_draws _ ?_ | (with_reducible refine Below.setCell ?_ ?_ _; rotate_left; focus (first | with_reducible exact Nat.le_refl _ | (simp; done) | (simp; omega) | (simp at *; omega))) | with_reducible refine ch_trans ?_ (by with_reducible assumption))), HT.out⟩
end Go.Proofs.Ytiijahoheajppab
