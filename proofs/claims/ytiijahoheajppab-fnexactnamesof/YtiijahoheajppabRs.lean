/- Lists of rows in memory: the laws' size, copy and look. -/
import Derived.Test.YtiijahoheajppabRw
namespace Go.Proofs.Ytiijahoheajppab
open Go.ChangeShapes Go.WideShapes Go.ChangeAt Go.RowKit

abbrev one1 (v : Value) : Array Value := #[v]
/-- Rows behind a slice. -/
def RowsV (w : World) (v : Value) (rs : List (List Vc)) : Prop := ∃ a cap xs, v = .slice a rs.length cap ∧ rs.length ≤ cap ∧ cap ≤ maxLen ∧ RowAt w a 1 (List.map one1 xs) ∧ xs.length = rs.length ∧ ∀ i (h : i < xs.length) (g : i < rs.length), ValsV w xs[i] rs[i]
theorem RowsV.on {w w' : World} {v : Value} {rs : List (List Vc)} (h : RowsV w v rs) (b : Below w.heap.size w w') : RowsV w' v rs := by
  obtain ⟨a, cap, xs, e, h1, h2, h3, h4, h5⟩ := h; exact ⟨a, cap, xs, e, h1, h2, h3.on b, h4, fun i h g => (h5 i h g).on b⟩
theorem RowsV.lit {w : World} {v : Value} {rs : List (List Vc)} (h : RowsV w v rs) : ∃ a cap, v = .slice a rs.length cap ∧ rs.length ≤ cap ∧ cap ≤ maxLen ∧ RowsV w (.slice a rs.length cap) rs := by
  obtain ⟨a, cap, xs, rfl, h1, h2, h3⟩ := h; exact ⟨a, cap, rfl, h1, h2, a, cap, xs, rfl, h1, h2, h3⟩
theorem RowsV.rw {w : World} {a : Option Addr} {n cap : Nat} {rs : List (List Vc)} (h : RowsV w (.slice a n cap) rs) (k : Nat) (hk : k < rs.length) : ∃ b off c p, a = some ⟨b, off, none⟩ ∧
    w.cell? ⟨b, off + k, none⟩ = some (.slice c rs[k].length p) ∧ ValsV w (.slice c rs[k].length p) rs[k] := by
  obtain ⟨a', cap', xs, e, h1, h2, h3, h4, h5⟩ := h
  cases e
  rcases h3.2 with h0 | ⟨b, off, ha, h⟩
  · rw [List.map_eq_nil_iff] at h0; subst h0; simp at h4; omega
  · obtain ⟨c, p, ex, _, _, hx⟩ := (h5 k (by omega) hk).lit
    have e0 := h k (by simp; omega) 0 (by omega)
    simp only [List.getElem_map, Nat.mul_one, Nat.add_zero] at e0
    rw [ex] at e0
    exact ⟨b, off, c, p, ha, e0, hx⟩
theorem ValsV.stores {v : Value} {vs : List Vc} {B b : Nat} (hf : From v B) (hb : b < B) : ∀ (us : List Value) (w : World) (o : Nat), ValsV w v vs → ValsV (stores w b o us) v vs
  | [], _, _, h => h
  | u :: r, _, o, h => ValsV.stores hf hb r _ (o + 1) (h.set hf hb u)
/-- Rows copied so far. -/
def Rfill (w : World) (B : Nat) (T : TypeId) (rs : List (List Vc)) (k : Nat) : Prop := ∃ ys, Fill w B T 1 rs.length (List.map one1 ys) ∧ ys.length = k ∧ ∀ i (h : i < ys.length) (g : i < rs.length), ValsV w ys[i] rs[i] ∧ From ys[i] (B + 1)
theorem Rfill.on {w w' : World} {B : Nat} {T : TypeId} {rs : List (List Vc)} {k : Nat} (h : Rfill w B T rs k) (b : Below w.heap.size w w') : Rfill w' B T rs k := by
  obtain ⟨ys, h1, h2, h3⟩ := h
  exact ⟨ys, h1.on b, h2, fun i h g => ⟨(h3 i h g).1.on b, (h3 i h g).2⟩⟩
theorem Rfill.put {w : World} {B : Nat} {T : TypeId} {rs : List (List Vc)} {k : Nat} (h : Rfill w B T rs k) (hk : k < rs.length) {y : Value} (hy : ValsV w y rs[k]) (hf : From y (B + 1)) : Rfill (stores w B k [y]) B T rs (k + 1) := by
  obtain ⟨ys, h1, rfl, h3⟩ := h
  refine ⟨ys ++ [y], ?_, by simp, fun i h g => ?_⟩
  · have := h1.put (by simpa using hk) [y] rfl
    simpa using this
  · by_cases hi : i < ys.length
    · rw [List.getElem_append_left hi]
      exact ⟨ValsV.stores (h3 i hi g).2 (by omega) _ _ _ (h3 i hi g).1, (h3 i hi g).2⟩
    · simp at h
      have : i = ys.length := by omega
      subst this
      simp only [List.getElem_append_right (Nat.le_refl _), Nat.sub_self, List.getElem_cons_zero]
      exact ⟨ValsV.stores hf (by omega) _ _ _ hy, hf⟩
theorem Rfill.done {w : World} {B : Nat} {T : TypeId} {rs : List (List Vc)} (h : Rfill w B T rs rs.length) (hm : rs.length ≤ maxLen) : RowsV w (.slice (some ⟨B, 0, none⟩) rs.length rs.length) rs := by
  obtain ⟨ys, h1, h2, h3⟩ := h
  exact ⟨_, _, ys, rfl, Nat.le_refl _, hm, h1.row, h2, fun i h g => (h3 i h g).1⟩
def rfits (rs : List (List Vc)) : Prop := ∀ r ∈ rs, vfit r
def rfews (rs : List (List Vc)) : Prop := rs.length ≤ 1048576 ∧ ∀ r ∈ rs, r.length ≤ 1048576

set_option maxRecDepth 100000 in
set_option maxHeartbeats 1000000 in
/-- laws.szRowS -/
theorem szRowS_any (v : Value) (rs : List (List Vc)) (l : Int) (w : World) (hx : RowsV w v rs) (hf : rfits rs) (h0 : 0 ≤ l) (h1 : l ≤ 1048576) :
    Calls Try.prog 77 #[v, .int .i64 l] w fun e w' => ∃ r : Int, e = .returned (.int .i64 r) ∧ Below w.heap.size w w' ∧ (r = -1 ∨ (0 ≤ r ∧ r ≤ l ∧ rfews rs)) := by
  obtain ⟨a, cap, rfl, hl, hm, hx⟩ := hx.lit
  unfold maxLen at hm
  have HX : Hid (RowsV w (.slice a rs.length cap) rs) := hx
  have HF : Hid (rfits rs) := hf
  clear hx hf
  by_cases hn : l < rs.length
  · go_enter Try.func77, Try.ntmps77
    go_wp2
    go_ret
    exact ⟨_, rfl, (by repeat (first | with_reducible exact Below.refl _ _ | with_reducible assumption | with_reducible refine ch_alloc ?_ _ | with_reducible refine Below.drew ?_ | with_reducible refine below_draws _ ?_ | (with_reducible refine Below.setCell ?_ ?_ _; rotate_left; focus (first | with_reducible exact Nat.le_refl _ | (simp; done) | (simp; omega) | (simp at *; omega))) | with_reducible refine ch_trans ?_ (by with_reducible assumption))), Or.inl rfl⟩
  have hn' : rs.length ≤ 1048576 := by omega
  go_enter Try.func77, Try.ntmps77
  go_wp2
  go_loopw [1, 5] (fun b i wr => ∃ (k : Nat) (r : Int), k ≤ rs.length ∧ i = .int .i64 k ∧ b = .int .i64 r ∧ 0 ≤ r ∧ r ≤ l ∧ Below w.heap.size w wr ∧ Hid (∀ i (h : i < rs.length), i < k → rs[i].length ≤ 1048576)) (fun _ i _ => rs.length - (intOf i).toNat)
  case atStart => exact ⟨0, _, Nat.zero_le _, rfl, rfl, by omega, by omega, (by repeat (first | with_reducible exact Below.refl _ _ | with_reducible assumption | with_reducible refine ch_alloc ?_ _ | with_reducible refine Below.drew ?_ | with_reducible refine below_draws _ ?_ | (with_reducible refine Below.setCell ?_ ?_ _; rotate_left; focus (first | with_reducible exact Nat.le_refl _ | (simp; done) | (simp; omega) | (simp at *; omega))) | with_reducible refine ch_trans ?_ (by with_reducible assumption))), fun i h hi => by omega⟩
  case round =>
    obtain ⟨k, r, hk, rfl, rfl, hr0, hr1, hb, HN⟩ := hrel
    by_cases hlt : k < rs.length
    · have hlti : (k : Int) < rs.length := by omega
      obtain ⟨b, off, c, p, rfl, d0, hx⟩ := (HX.out.on hb).rw k hlt
      have HY : Hid (ValsV wr (.slice c rs[k].length p) rs[k]) := hx
      clear hx
      go_wp2_with fail
      refine (szRow_any _ rs[k] r _ (HY.out.on (by repeat (first | with_reducible exact Below.refl _ _ | with_reducible assumption | with_reducible refine ch_alloc ?_ _ | with_reducible refine Below.drew ?_ | with_reducible refine below_draws _ ?_ | (with_reducible refine Below.setCell ?_ ?_ _; rotate_left; focus (first | with_reducible exact Nat.le_refl _ | (simp; done) | (simp; omega) | (simp at *; omega))) | with_reducible refine ch_trans ?_ (by with_reducible assumption)))) (HF.out _ (List.getElem_mem hlt)) hr0 (by omega)).mono ?_
      rintro e w1 ⟨q, rfl, b1, hq⟩
      rcases hq with rfl | ⟨q0, q1, q2⟩
      · go_wp2
        go_ret
        exact ⟨_, rfl, (by repeat (first | with_reducible exact Below.refl _ _ | with_reducible assumption | with_reducible refine ch_alloc ?_ _ | with_reducible refine Below.drew ?_ | with_reducible refine below_draws _ ?_ | (with_reducible refine Below.setCell ?_ ?_ _; rotate_left; focus (first | with_reducible exact Nat.le_refl _ | (simp; done) | (simp; omega) | (simp at *; omega))) | with_reducible refine ch_trans ?_ (by with_reducible assumption))), Or.inl rfl⟩
      · have HN' : Hid (∀ i (h : i < rs.length), i < k + 1 → rs[i].length ≤ 1048576) := fun i h hi => by
          by_cases e : i = k
          · subst e; exact q2
          · exact HN.out i h (by omega)
        clear q2
        go_wp2
        go_round
        case rel => exact ⟨k + 1, q, by omega, by go_num, rfl, q0, by omega, (by repeat (first | with_reducible exact Below.refl _ _ | with_reducible assumption | with_reducible refine ch_alloc ?_ _ | with_reducible refine Below.drew ?_ | with_reducible refine below_draws _ ?_ | (with_reducible refine Below.setCell ?_ ?_ _; rotate_left; focus (first | with_reducible exact Nat.le_refl _ | (simp; done) | (simp; omega) | (simp at *; omega))) | with_reducible refine ch_trans ?_ (by with_reducible assumption))), HN'⟩
        case measure => simp [intOf]; omega
    · have hlti : (rs.length : Int) ≤ k := by omega
      have HG : Hid (rfews rs) := ⟨hn', fun t ht => by
        obtain ⟨i, hi, rfl⟩ := List.getElem_of_mem ht
        exact HN.out i hi (by omega)⟩
      go_wp2
      go_ret
      exact ⟨_, rfl, (by repeat (first | with_reducible exact Below.refl _ _ | with_reducible assumption | with_reducible refine ch_alloc ?_ _ | with_reducible refine Below.drew ?_ | with_reducible refine below_draws _ ?_ | (with_reducible refine Below.setCell ?_ ?_ _; rotate_left; focus (first | with_reducible exact Nat.le_refl _ | (simp; done) | (simp; omega) | (simp at *; omega))) | with_reducible refine ch_trans ?_ (by with_reducible assumption))), Or.inr ⟨hr0, hr1, HG.out⟩⟩

set_option maxRecDepth 100000 in
set_option maxHeartbeats 1000000 in
/-- laws.eqRowS -/
theorem eqRowS_same (av bv : Value) (rs : List (List Vc)) (w : World) (ha : RowsV w av rs) (hb : RowsV w bv rs) : Calls Try.prog 85 #[av, bv] w fun e w' => e = .returned (.bool true) ∧ Below w.heap.size w w' := by
  obtain ⟨a, cap, rfl, hl, hm, ha⟩ := ha.lit
  obtain ⟨a', cap', rfl, hl', hm', hb⟩ := hb.lit
  unfold maxLen at hm
  have HC : Hid (RowsV w (.slice a rs.length cap) rs) := ha
  have HC' : Hid (RowsV w (.slice a' rs.length cap') rs) := hb
  clear ha hb hm' hl'
  go_enter Try.func85, Try.ntmps85
  go_wp2
  go_loopw [5] (fun i wr => ∃ k : Nat, k ≤ rs.length ∧ i = .int .i64 k ∧ Below w.heap.size w wr) (fun i _ => rs.length - (intOf i).toNat)
  case atStart => exact ⟨0, Nat.zero_le _, rfl, (by repeat (first | with_reducible exact Below.refl _ _ | with_reducible assumption | with_reducible refine ch_alloc ?_ _ | with_reducible refine Below.drew ?_ | with_reducible refine below_draws _ ?_ | (with_reducible refine Below.setCell ?_ ?_ _; rotate_left; focus (first | with_reducible exact Nat.le_refl _ | (simp; done) | (simp; omega) | (simp at *; omega))) | with_reducible refine ch_trans ?_ (by with_reducible assumption)))⟩
  case round =>
    obtain ⟨k, hk, rfl, hb⟩ := hrel
    by_cases hlt : k < rs.length
    · have hlti : (k : Int) < rs.length := by omega
      obtain ⟨b, off, c, p, rfl, d0, hx⟩ := (HC.out.on hb).rw k hlt
      obtain ⟨b', off', c', p', rfl, d0', hx'⟩ := (HC'.out.on hb).rw k hlt
      have HY : Hid (ValsV wr (.slice c rs[k].length p) rs[k]) := hx
      have HY' : Hid (ValsV wr (.slice c' rs[k].length p') rs[k]) := hx'
      clear hx hx'
      go_wp2_with fail
      go_region_with (go_at_call 110; refine (eqRow_same _ _ rs[k] _ (HY.out.on (by repeat (first | with_reducible exact Below.refl _ _ | with_reducible assumption | with_reducible refine ch_alloc ?_ _ | with_reducible refine Below.drew ?_ | with_reducible refine below_draws _ ?_ | (with_reducible refine Below.setCell ?_ ?_ _; rotate_left; focus (first | with_reducible exact Nat.le_refl _ | (simp; done) | (simp; omega) | (simp at *; omega))) | with_reducible refine ch_trans ?_ (by with_reducible assumption)))) (HY'.out.on (by repeat (first | with_reducible exact Below.refl _ _ | with_reducible assumption | with_reducible refine ch_alloc ?_ _ | with_reducible refine Below.drew ?_ | with_reducible refine below_draws _ ?_ | (with_reducible refine Below.setCell ?_ ?_ _; rotate_left; focus (first | with_reducible exact Nat.le_refl _ | (simp; done) | (simp; omega) | (simp at *; omega))) | with_reducible refine ch_trans ?_ (by with_reducible assumption))))).mono ?_; rintro e w1 ⟨rfl, b1⟩)
      all_goals
        go_wp2
        go_round
        case rel => exact ⟨k + 1, by omega, by go_num, (by repeat (first | with_reducible exact Below.refl _ _ | with_reducible assumption | with_reducible refine ch_alloc ?_ _ | with_reducible refine Below.drew ?_ | with_reducible refine below_draws _ ?_ | (with_reducible refine Below.setCell ?_ ?_ _; rotate_left; focus (first | with_reducible exact Nat.le_refl _ | (simp; done) | (simp; omega) | (simp at *; omega))) | with_reducible refine ch_trans ?_ (by with_reducible assumption)))⟩
        case measure => simp [intOf]; omega
    · have hlti : (rs.length : Int) ≤ k := by omega
      go_wp2
      go_ret
      exact ⟨rfl, (by repeat (first | with_reducible exact Below.refl _ _ | with_reducible assumption | with_reducible refine ch_alloc ?_ _ | with_reducible refine Below.drew ?_ | with_reducible refine below_draws _ ?_ | (with_reducible refine Below.setCell ?_ ?_ _; rotate_left; focus (first | with_reducible exact Nat.le_refl _ | (simp; done) | (simp; omega) | (simp at *; omega))) | with_reducible refine ch_trans ?_ (by with_reducible assumption)))⟩

set_option maxRecDepth 100000 in
set_option maxHeartbeats 1000000 in
/-- laws.toRowS -/
theorem toRowS_any (v : Value) (rs : List (List Vc)) (w : World) (hx : RowsV w v rs) (hf : rfews rs) :
    Calls Try.prog 81 #[v] w fun e w' => ∃ B, e = .returned (.slice (some ⟨B, 0, none⟩) rs.length rs.length) ∧ w.heap.size ≤ B ∧ Below w.heap.size w w' ∧ Rfill w' B 52 rs rs.length := by
  obtain ⟨a, cap, rfl, hl, hm, hx⟩ := hx.lit
  unfold maxLen at hm
  have HX : Hid (RowsV w (.slice a rs.length cap) rs) := hx
  obtain ⟨hn, hf⟩ := hf
  have HF : Hid (∀ r ∈ rs, r.length ≤ 1048576) := hf
  clear hx hf
  have hmk := run_makes (P := Try.prog) 99 52 (.agg #[.slice none 0 0]) _ 1 24 Try.underlying99 (by kernel_rfl) rfl .i64 .i64 rs.length (by omega) (by omega)
  rw [Nat.mul_one] at hmk
  go_enter Try.func81, Try.ntmps81
  go_wp2
  have HT : Hid (Rfill (w.alloc (.cells (madeCells #[.slice none 0 0] rs.length) 52)) w.heap.size 52 rs 0) := ⟨[], Fill.new w _ 1 rs.length _ ((size_madeCells _ _).trans (Nat.mul_one _).symm), rfl, fun i h => by simp at h⟩
  go_loopw [4] (fun i wr => ∃ k : Nat, k ≤ rs.length ∧ i = .int .i64 k ∧ Below w.heap.size w wr ∧ Hid (Rfill wr w.heap.size 52 rs k)) (fun i _ => rs.length - (intOf i).toNat)
  case atStart => exact ⟨0, Nat.zero_le _, rfl, (by repeat (first | with_reducible exact Below.refl _ _ | with_reducible assumption | with_reducible refine ch_alloc ?_ _ | with_reducible refine Below.drew ?_ | with_reducible refine below_draws _ ?_ | (with_reducible refine Below.setCell ?_ ?_ _; rotate_left; focus (first | with_reducible exact Nat.le_refl _ | (simp; done) | (simp; omega) | (simp at *; omega))) | with_reducible refine ch_trans ?_ (by with_reducible assumption))), HT⟩
  case round =>
    clear HT
    obtain ⟨k, hk, rfl, hb, HT⟩ := hrel
    by_cases hlt : k < rs.length
    · have hlti : (k : Int) < rs.length := by omega
      obtain ⟨b, off, c, p, rfl, d0, hx⟩ := (HX.out.on hb).rw k hlt
      have HY : Hid (ValsV wr (.slice c rs[k].length p) rs[k]) := hx
      clear hx
      go_wp2_with fail
      refine (toRow_any _ rs[k] _ (HY.out.on (by repeat (first | with_reducible exact Below.refl _ _ | with_reducible assumption | with_reducible refine ch_alloc ?_ _ | with_reducible refine Below.drew ?_ | with_reducible refine below_draws _ ?_ | (with_reducible refine Below.setCell ?_ ?_ _; rotate_left; focus (first | with_reducible exact Nat.le_refl _ | (simp; done) | (simp; omega) | (simp at *; omega))) | with_reducible refine ch_trans ?_ (by with_reducible assumption)))) (HF.out _ (List.getElem_mem hlt))).mono ?_
      rintro e w1 ⟨B, rfl, hB1, b1, hy⟩
      have hB : w.heap.size + 1 ≤ wr.heap.size := by
        obtain ⟨ys, hF, _, _⟩ := HT.out
        exact hF.lt
      have hT1 := HT.out.on b1
      have hrl := HF.out _ (List.getElem_mem hlt)
      have HT' : Hid (Rfill (stores w1 w.heap.size k [.slice (some ⟨B, 0, none⟩) rs[k].length rs[k].length]) w.heap.size 52 rs (k + 1)) := hT1.put hlt (hy.valsV (by unfold maxLen; omega)) ((from_new _ _ _).mono (by omega))
      obtain ⟨ys, hF, hyl, _⟩ := hT1
      obtain ⟨v0, g0, f0⟩ := hF.one (k := k) (by simpa using hyl) hlt
      clear hy hF hyl hrl hB1
      go_wp2
      go_round
      case rel => exact ⟨k + 1, by omega, by go_num, (by repeat (first | with_reducible exact Below.refl _ _ | with_reducible assumption | with_reducible refine ch_alloc ?_ _ | with_reducible refine Below.drew ?_ | with_reducible refine below_draws _ ?_ | (with_reducible refine Below.setCell ?_ ?_ _; rotate_left; focus (first | with_reducible exact Nat.le_refl _ | (simp; done) | (simp; omega) | (simp at *; omega))) | with_reducible refine ch_trans ?_ (by with_reducible assumption))), HT'⟩
      case measure => simp [intOf]; omega
    · have hlti : (rs.length : Int) ≤ k := by omega
      obtain rfl : k = rs.length := by omega
      go_wp2
      go_ret
      exact ⟨_, rfl, Nat.le_refl _, (by repeat (first | with_reducible exact Below.refl _ _ | with_reducible assumption | with_reducible refine ch_alloc ?_ _ | with_reducible refine Below.drew ?_ | with_reducible refine below_draws _ ?_ | (with_reducible refine Below.setCell ?_ ?_ _; rotate_left; focus (first | with_reducible exact Nat.le_refl _ | (simp; done) | (simp; omega) | (simp at *; omega))) | with_reducible refine ch_trans ?_ (by with_reducible assumption))), HT.out⟩
end Go.Proofs.Ytiijahoheajppab
