/- Catalogs in memory: the laws' size, copy and look. -/
import Derived.Test.YtiijahoheajppabTab
namespace Go.Proofs.Ytiijahoheajppab
open Go.ChangeShapes Go.WideShapes Go.ChangeAt Go.RowKit

/-- Tables behind a slice. -/
def TabsV (w : World) (v : Value) (ts : List Tc) : Prop := ∃ a cap xs, v = .slice a ts.length cap ∧ ts.length ≤ cap ∧ cap ≤ maxLen ∧ RowAt w a 3 xs ∧ xs.length = ts.length ∧ ∀ i (h : i < xs.length) (g : i < ts.length), TabV w xs[i] ts[i]
theorem TabsV.on {w w' : World} {v : Value} {ts : List Tc} (h : TabsV w v ts) (b : Below w.heap.size w w') : TabsV w' v ts := by
  obtain ⟨a, cap, xs, e, h1, h2, h3, h4, h5⟩ := h; exact ⟨a, cap, xs, e, h1, h2, h3.on b, h4, fun i h g => (h5 i h g).on b⟩
theorem TabsV.lit {w : World} {v : Value} {ts : List Tc} (h : TabsV w v ts) : ∃ a cap, v = .slice a ts.length cap ∧ ts.length ≤ cap ∧ cap ≤ maxLen := by
  obtain ⟨a, cap, xs, e, h1, h2, _⟩ := h; exact ⟨a, cap, e, h1, h2⟩
theorem TabsV.tab {w : World} {a : Option Addr} {n cap : Nat} {ts : List Tc} (h : TabsV w (.slice a n cap) ts) (k : Nat) (hk : k < ts.length) : ∃ b off c1 p1 c2 p2, a = some ⟨b, off, none⟩ ∧
    w.cell? ⟨b, off + k * 3, none⟩ = some (.string ts[k].name) ∧ w.cell? ⟨b, off + k * 3 + 1, none⟩ = some (.slice c1 ts[k].cols.length p1) ∧ w.cell? ⟨b, off + k * 3 + 2, none⟩ = some (.slice c2 ts[k].keys.length p2) ∧
    TabV w #[.string ts[k].name, .slice c1 ts[k].cols.length p1, .slice c2 ts[k].keys.length p2] ts[k] := by
  obtain ⟨a', cap', xs, e, h1, h2, h3, h4, h5⟩ := h
  cases e
  rcases h3.2 with h0 | ⟨b, off, ha, h⟩
  · subst h0; simp at h4; omega
  · obtain ⟨c1, p1, c2, p2, ex, hx, _⟩ := (h5 k (by omega) hk).lit
    have e0 := h k (by omega) 0 (by omega)
    have e1 := h k (by omega) 1 (by omega)
    have e2 := h k (by omega) 2 (by omega)
    rw [ex] at e0 e1 e2
    exact ⟨b, off, c1, p1, c2, p2, ha, e0, e1, e2, hx⟩
theorem TabV.set {w : World} {x : Array Value} {t : Tc} (h : TabV w x t) {B : Nat} (hf : TabFrom x B) {p : Addr} (hp : p.block < B) (u : Value) : TabV (w.setCell p u) x t := by
  obtain ⟨cv, kv, rfl, hc, hk⟩ := h
  exact ⟨cv, kv, rfl, hc.set (hf cv (by simp)) hp u, hk.set (hf kv (by simp)) hp u⟩
theorem TabV.stores {x : Array Value} {t : Tc} {B b : Nat} (hf : TabFrom x B) (hb : b < B) : ∀ (vs : List Value) (w : World) (o : Nat), TabV w x t → TabV (stores w b o vs) x t
  | [], _, _, h => h
  | v :: r, _, o, h => TabV.stores hf hb r _ (o + 1) (h.set hf hb v)
/-- Tables copied so far. -/
def Tfill (w : World) (B : Nat) (T : TypeId) (ts : List Tc) (k : Nat) : Prop := ∃ ys, Fill w B T 3 ts.length ys ∧ ys.length = k ∧ ∀ i (h : i < ys.length) (g : i < ts.length), TabV w ys[i] ts[i] ∧ TabFrom ys[i] (B + 1)
theorem Tfill.on {w w' : World} {B : Nat} {T : TypeId} {ts : List Tc} {k : Nat} (h : Tfill w B T ts k) (b : Below w.heap.size w w') : Tfill w' B T ts k := by
  obtain ⟨ys, h1, h2, h3⟩ := h
  exact ⟨ys, h1.on b, h2, fun i h g => ⟨(h3 i h g).1.on b, (h3 i h g).2⟩⟩
theorem Tfill.put {w : World} {B : Nat} {T : TypeId} {ts : List Tc} {k : Nat} (h : Tfill w B T ts k) (hk : k < ts.length) {y : Array Value} (hy : TabV w y ts[k]) (hf : TabFrom y (B + 1)) (hz : y.size = 3) : Tfill (stores w B (k * 3) y.toList) B T ts (k + 1) := by
  obtain ⟨ys, h1, rfl, h3⟩ := h
  refine ⟨ys ++ [y], ?_, by simp, fun i h g => ?_⟩
  · have := h1.put hk y.toList (by simpa using hz)
    simpa using this
  · by_cases hi : i < ys.length
    · rw [List.getElem_append_left hi]
      exact ⟨TabV.stores (h3 i hi g).2 (by omega) _ _ _ (h3 i hi g).1, (h3 i hi g).2⟩
    · simp at h
      have : i = ys.length := by omega
      subst this
      simp only [List.getElem_append_right (Nat.le_refl _), Nat.sub_self, List.getElem_cons_zero]
      exact ⟨TabV.stores hf (by omega) _ _ _ hy, hf⟩
/-- The tables' own rows, and the tables', lie from block B on. -/
def TabsFrom (w : World) (v : Value) (B : Nat) : Prop := From v B ∧ ∀ a n cap, v = .slice (some a) n cap → ∀ i, i < n → ∀ j, j < 3 → ∀ u, w.cell? ⟨a.block, a.off + i * 3 + j, none⟩ = some u → From u B
theorem Tfill.done {w : World} {B : Nat} {T : TypeId} {ts : List Tc} (h : Tfill w B T ts ts.length) (hm : ts.length ≤ maxLen) : TabsV w (.slice (some ⟨B, 0, none⟩) ts.length ts.length) ts ∧ TabsFrom w (.slice (some ⟨B, 0, none⟩) ts.length ts.length) B := by
  obtain ⟨ys, h1, h2, h3⟩ := h
  refine ⟨⟨_, _, ys, rfl, Nat.le_refl _, hm, h1.row, h2, fun i h g => (h3 i h g).1⟩, from_new _ _ _, ?_⟩
  rintro a n cap e i hi j hj u hu
  cases e
  obtain ⟨hz, h0 | ⟨b, off, e, hr⟩⟩ := h1.row
  · subst h0; simp at h2; omega
  · cases e
    have hs := hz ys[i] (List.getElem_mem (by omega))
    rw [hr i (by omega) j hj, Array.getElem?_eq_getElem (by omega)] at hu
    cases hu
    exact ((h3 i (by omega) hi).2 _ (by simp)).mono (by omega)
/-- Tables behind a slice, in memory from block B on. -/
def TabsN (w : World) (v : Value) (ts : List Tc) (B : Nat) : Prop := TabsV w v ts ∧ TabsFrom w v B
theorem TabsN.on {w w' : World} {v : Value} {ts : List Tc} {B : Nat} (h : TabsN w v ts B) (k : Below w.heap.size w w') : TabsN w' v ts B := by
  refine ⟨h.1.on k, h.2.1, fun a n cap e i hi j hj u hu => h.2.2 a n cap e i hi j hj u ?_⟩
  obtain ⟨a', cap', xs, e', h1, h2, h3, h4, h5⟩ := h.1
  subst e
  cases e'
  rcases h3.2 with h0 | ⟨b, off, e, hr⟩
  · subst h0; simp at h4; omega
  · cases e
    have hs := h3.1 xs[i] (List.getElem_mem (by omega))
    have hc := hr i (by omega) j hj
    rw [Array.getElem?_eq_getElem (by omega)] at hc
    rw [← hu]
    exact (k.cell (p := ⟨b, off + i * 3 + j, none⟩) (cell_lt hc)).symm
theorem TabsN.set {w : World} {v : Value} {ts : List Tc} {B : Nat} (h : TabsN w v ts B) {p : Addr} (hp : p.block < B) (u : Value) : TabsN (w.setCell p u) v ts B := by
  obtain ⟨⟨a, cap, xs, rfl, h1, h2, h3, h4, h5⟩, hf1, hf2⟩ := h
  have hne : ∀ q, a = some q → q.block ≠ p.block := fun q hq => by subst hq; have := hf1 _ _ _ rfl; omega
  refine ⟨⟨a, cap, xs, rfl, h1, h2, h3.set hne u, h4, fun i h g => ?_⟩, hf1, fun a' n cap' e i hi j hj x hx => ?_⟩
  · refine (h5 i h g).set (B := B) (fun y hy => ?_) hp u
    rcases h3.2 with h0 | ⟨b, off, e, hr⟩
    · subst h0; simp at h
    · subst e
      obtain ⟨j, hj, rfl⟩ := List.getElem_of_mem hy
      have hs := h3.1 xs[i] (List.getElem_mem h)
      have hj' : j < 3 := by simpa [hs] using hj
      have hc := hr i h j hj'
      rw [Array.getElem?_eq_getElem (by omega)] at hc
      exact hf2 _ _ _ rfl i g j hj' _ (by simpa using hc)
  · cases e
    refine hf2 _ _ _ rfl i hi j hj x ?_
    rw [← hx]
    exact (World.cell?_of_block (w := w) (a := ⟨a'.block, a'.off + i * 3 + j, none⟩) (Below.heap_setCell _ _ _ a'.block (hne a' rfl))).symm
theorem TabsN.mono {w : World} {v : Value} {ts : List Tc} {B B' : Nat} (h : TabsN w v ts B) (hB : B' ≤ B) : TabsN w v ts B' := ⟨h.1, h.2.1.mono hB, fun a n cap e i hi j hj u hu => (h.2.2 a n cap e i hi j hj u hu).mono hB⟩
def fits (ts : List Tc) : Prop := ∀ t ∈ ts, t.fit
def fews (ts : List Tc) : Prop := ts.length ≤ 1048576 ∧ ∀ t ∈ ts, t.few

set_option maxRecDepth 100000 in
set_option maxHeartbeats 1000000 in
/-- laws.szTableS -/
theorem szTableS_any (v : Value) (ts : List Tc) (l : Int) (w : World) (hx : TabsV w v ts) (hf : fits ts) (h0 : 0 ≤ l) (h1 : l ≤ 1048576) :
    Calls Try.prog 41 #[v, .int .i64 l] w fun e w' => ∃ r : Int, e = .returned (.int .i64 r) ∧ Below w.heap.size w w' ∧ (r = -1 ∨ (0 ≤ r ∧ r ≤ l ∧ fews ts)) := by
  obtain ⟨a, cap, rfl, hl, hm⟩ := hx.lit
  unfold maxLen at hm
  have HX : Hid (TabsV w (.slice a ts.length cap) ts) := hx
  have HF : Hid (fits ts) := hf
  clear hx hf
  by_cases hn : l < ts.length
  · go_enter Try.func41, Try.ntmps41
    go_wp2
    go_ret
    exact ⟨_, rfl, (by repeat (first | with_reducible exact Below.refl _ _ | with_reducible assumption | with_reducible refine ch_alloc ?_ _ | with_reducible refine Below.drew ?_ | with_reducible refine below_draws _ ?_ | (with_reducible refine Below.setCell ?_ ?_ _; rotate_left; focus (first | with_reducible exact Nat.le_refl _ | (simp; done) | (simp; omega) | (simp at *; omega))) | with_reducible refine ch_trans ?_ (by with_reducible assumption))), Or.inl rfl⟩
  have hn' : ts.length ≤ 1048576 := by omega
  go_enter Try.func41, Try.ntmps41
  go_wp2
  go_loopw [1, 5] (fun b i wr => ∃ (k : Nat) (r : Int), k ≤ ts.length ∧ i = .int .i64 k ∧ b = .int .i64 r ∧ 0 ≤ r ∧ r ≤ l ∧ Below w.heap.size w wr ∧ Hid (∀ i (h : i < ts.length), i < k → ts[i].few)) (fun _ i _ => ts.length - (intOf i).toNat)
  case atStart => exact ⟨0, _, Nat.zero_le _, rfl, rfl, by omega, by omega, (by repeat (first | with_reducible exact Below.refl _ _ | with_reducible assumption | with_reducible refine ch_alloc ?_ _ | with_reducible refine Below.drew ?_ | with_reducible refine below_draws _ ?_ | (with_reducible refine Below.setCell ?_ ?_ _; rotate_left; focus (first | with_reducible exact Nat.le_refl _ | (simp; done) | (simp; omega) | (simp at *; omega))) | with_reducible refine ch_trans ?_ (by with_reducible assumption))), fun i h hi => by omega⟩
  case round =>
    obtain ⟨k, r, hk, rfl, rfl, hr0, hr1, hb, HN⟩ := hrel
    by_cases hlt : k < ts.length
    · have hlti : (k : Int) < ts.length := by omega
      obtain ⟨b, off, c1, p1, c2, p2, rfl, d0, d1, d2, hx⟩ := (HX.out.on hb).tab k hlt
      have HY : Hid (TabV wr #[.string ts[k].name, .slice c1 ts[k].cols.length p1, .slice c2 ts[k].keys.length p2] ts[k]) := hx
      clear hx
      go_wp2_with fail
      refine (szTable_any _ ts[k] r _ (HY.out.on (by repeat (first | with_reducible exact Below.refl _ _ | with_reducible assumption | with_reducible refine ch_alloc ?_ _ | with_reducible refine Below.drew ?_ | with_reducible refine below_draws _ ?_ | (with_reducible refine Below.setCell ?_ ?_ _; rotate_left; focus (first | with_reducible exact Nat.le_refl _ | (simp; done) | (simp; omega) | (simp at *; omega))) | with_reducible refine ch_trans ?_ (by with_reducible assumption)))) (HF.out _ (List.getElem_mem hlt)) hr0 (by omega)).mono ?_
      rintro e w1 ⟨q, rfl, b1, hq⟩
      rcases hq with rfl | ⟨q0, q1, q2⟩
      · go_wp2
        go_ret
        exact ⟨_, rfl, (by repeat (first | with_reducible exact Below.refl _ _ | with_reducible assumption | with_reducible refine ch_alloc ?_ _ | with_reducible refine Below.drew ?_ | with_reducible refine below_draws _ ?_ | (with_reducible refine Below.setCell ?_ ?_ _; rotate_left; focus (first | with_reducible exact Nat.le_refl _ | (simp; done) | (simp; omega) | (simp at *; omega))) | with_reducible refine ch_trans ?_ (by with_reducible assumption))), Or.inl rfl⟩
      · have HN' : Hid (∀ i (h : i < ts.length), i < k + 1 → ts[i].few) := fun i h hi => by
          by_cases e : i = k
          · subst e; exact q2
          · exact HN.out i h (by omega)
        clear q2
        go_wp2
        go_round
        case rel => exact ⟨k + 1, q, by omega, by go_num, rfl, q0, by omega, (by repeat (first | with_reducible exact Below.refl _ _ | with_reducible assumption | with_reducible refine ch_alloc ?_ _ | with_reducible refine Below.drew ?_ | with_reducible refine below_draws _ ?_ | (with_reducible refine Below.setCell ?_ ?_ _; rotate_left; focus (first | with_reducible exact Nat.le_refl _ | (simp; done) | (simp; omega) | (simp at *; omega))) | with_reducible refine ch_trans ?_ (by with_reducible assumption))), HN'⟩
        case measure => simp [intOf]; omega
    · have hlti : (ts.length : Int) ≤ k := by omega
      have HG : Hid (fews ts) := ⟨hn', fun t ht => by
        obtain ⟨i, hi, rfl⟩ := List.getElem_of_mem ht
        exact HN.out i hi (by omega)⟩
      go_wp2
      go_ret
      exact ⟨_, rfl, (by repeat (first | with_reducible exact Below.refl _ _ | with_reducible assumption | with_reducible refine ch_alloc ?_ _ | with_reducible refine Below.drew ?_ | with_reducible refine below_draws _ ?_ | (with_reducible refine Below.setCell ?_ ?_ _; rotate_left; focus (first | with_reducible exact Nat.le_refl _ | (simp; done) | (simp; omega) | (simp at *; omega))) | with_reducible refine ch_trans ?_ (by with_reducible assumption))), Or.inr ⟨hr0, hr1, HG.out⟩⟩

set_option maxRecDepth 100000 in
/-- laws.szCat -/
theorem szCat_any (v : Value) (ts : List Tc) (l : Int) (w : World) (hx : TabsV w v ts) (hf : fits ts) (h0 : 0 ≤ l) (h1 : l ≤ 1048576) :
    Calls Try.prog 19 #[.agg #[v], .int .i64 l] w fun e w' => ∃ r : Int, e = .returned (.int .i64 r) ∧ Below w.heap.size w w' ∧ (r = -1 ∨ (0 ≤ r ∧ r ≤ l ∧ fews ts)) := by
  obtain ⟨a, cap, rfl, hl, hm⟩ := hx.lit
  have HX : Hid (TabsV w (.slice a ts.length cap) ts) := hx
  clear hx
  go_enter Try.func19, Try.ntmps19
  go_wp2_with fail
  refine (szTableS_any _ ts l _ (HX.out.on (by repeat (first | with_reducible exact Below.refl _ _ | with_reducible assumption | with_reducible refine ch_alloc ?_ _ | with_reducible refine Below.drew ?_ | with_reducible refine below_draws _ ?_ | (with_reducible refine Below.setCell ?_ ?_ _; rotate_left; focus (first | with_reducible exact Nat.le_refl _ | (simp; done) | (simp; omega) | (simp at *; omega))) | with_reducible refine ch_trans ?_ (by with_reducible assumption)))) hf h0 h1).mono ?_
  rintro e w1 ⟨r, rfl, b1, hr⟩
  rcases hr with rfl | ⟨r0, r1, r2⟩
  · go_wp2
    go_ret
    exact ⟨_, rfl, (by repeat (first | with_reducible exact Below.refl _ _ | with_reducible assumption | with_reducible refine ch_alloc ?_ _ | with_reducible refine Below.drew ?_ | with_reducible refine below_draws _ ?_ | (with_reducible refine Below.setCell ?_ ?_ _; rotate_left; focus (first | with_reducible exact Nat.le_refl _ | (simp; done) | (simp; omega) | (simp at *; omega))) | with_reducible refine ch_trans ?_ (by with_reducible assumption))), Or.inl rfl⟩
  · go_wp2
    go_ret
    exact ⟨_, rfl, (by repeat (first | with_reducible exact Below.refl _ _ | with_reducible assumption | with_reducible refine ch_alloc ?_ _ | with_reducible refine Below.drew ?_ | with_reducible refine below_draws _ ?_ | (with_reducible refine Below.setCell ?_ ?_ _; rotate_left; focus (first | with_reducible exact Nat.le_refl _ | (simp; done) | (simp; omega) | (simp at *; omega))) | with_reducible refine ch_trans ?_ (by with_reducible assumption))), Or.inr ⟨r0, r1, r2⟩⟩

set_option maxRecDepth 100000 in
set_option maxHeartbeats 1000000 in
/-- laws.eqTableS -/
theorem eqTableS_same (av bv : Value) (ts : List Tc) (w : World) (ha : TabsV w av ts) (hb : TabsV w bv ts) : Calls Try.prog 54 #[av, bv] w fun e w' => e = .returned (.bool true) ∧ Below w.heap.size w w' := by
  obtain ⟨a, cap, rfl, hl, hm⟩ := ha.lit
  obtain ⟨a', cap', rfl, hl', hm'⟩ := hb.lit
  unfold maxLen at hm
  have HC : Hid (TabsV w (.slice a ts.length cap) ts) := ha
  have HC' : Hid (TabsV w (.slice a' ts.length cap') ts) := hb
  clear ha hb hm' hl'
  go_enter Try.func54, Try.ntmps54
  go_wp2
  go_loopw [5] (fun i wr => ∃ k : Nat, k ≤ ts.length ∧ i = .int .i64 k ∧ Below w.heap.size w wr) (fun i _ => ts.length - (intOf i).toNat)
  case atStart => exact ⟨0, Nat.zero_le _, rfl, (by repeat (first | with_reducible exact Below.refl _ _ | with_reducible assumption | with_reducible refine ch_alloc ?_ _ | with_reducible refine Below.drew ?_ | with_reducible refine below_draws _ ?_ | (with_reducible refine Below.setCell ?_ ?_ _; rotate_left; focus (first | with_reducible exact Nat.le_refl _ | (simp; done) | (simp; omega) | (simp at *; omega))) | with_reducible refine ch_trans ?_ (by with_reducible assumption)))⟩
  case round =>
    obtain ⟨k, hk, rfl, hb⟩ := hrel
    by_cases hlt : k < ts.length
    · have hlti : (k : Int) < ts.length := by omega
      obtain ⟨b, off, c1, p1, c2, p2, rfl, d0, d1, d2, hx⟩ := (HC.out.on hb).tab k hlt
      obtain ⟨b', off', c1', p1', c2', p2', rfl, d0', d1', d2', hx'⟩ := (HC'.out.on hb).tab k hlt
      have HY : Hid (TabV wr #[.string ts[k].name, .slice c1 ts[k].cols.length p1, .slice c2 ts[k].keys.length p2] ts[k]) := hx
      have HY' : Hid (TabV wr #[.string ts[k].name, .slice c1' ts[k].cols.length p1', .slice c2' ts[k].keys.length p2'] ts[k]) := hx'
      clear hx hx'
      go_wp2_with fail
      go_region_with (go_at_call 84; refine (eqTable_same _ _ ts[k] _ (HY.out.on (by repeat (first | with_reducible exact Below.refl _ _ | with_reducible assumption | with_reducible refine ch_alloc ?_ _ | with_reducible refine Below.drew ?_ | with_reducible refine below_draws _ ?_ | (with_reducible refine Below.setCell ?_ ?_ _; rotate_left; focus (first | with_reducible exact Nat.le_refl _ | (simp; done) | (simp; omega) | (simp at *; omega))) | with_reducible refine ch_trans ?_ (by with_reducible assumption)))) (HY'.out.on (by repeat (first | with_reducible exact Below.refl _ _ | with_reducible assumption | with_reducible refine ch_alloc ?_ _ | with_reducible refine Below.drew ?_ | with_reducible refine below_draws _ ?_ | (with_reducible refine Below.setCell ?_ ?_ _; rotate_left; focus (first | with_reducible exact Nat.le_refl _ | (simp; done) | (simp; omega) | (simp at *; omega))) | with_reducible refine ch_trans ?_ (by with_reducible assumption))))).mono ?_; rintro e w1 ⟨rfl, b1⟩)
      all_goals
        go_wp2
        go_round
        case rel => exact ⟨k + 1, by omega, by go_num, (by repeat (first | with_reducible exact Below.refl _ _ | with_reducible assumption | with_reducible refine ch_alloc ?_ _ | with_reducible refine Below.drew ?_ | with_reducible refine below_draws _ ?_ | (with_reducible refine Below.setCell ?_ ?_ _; rotate_left; focus (first | with_reducible exact Nat.le_refl _ | (simp; done) | (simp; omega) | (simp at *; omega))) | with_reducible refine ch_trans ?_ (by with_reducible assumption)))⟩
        case measure => simp [intOf]; omega
    · have hlti : (ts.length : Int) ≤ k := by omega
      go_wp2
      go_ret
      exact ⟨rfl, (by repeat (first | with_reducible exact Below.refl _ _ | with_reducible assumption | with_reducible refine ch_alloc ?_ _ | with_reducible refine Below.drew ?_ | with_reducible refine below_draws _ ?_ | (with_reducible refine Below.setCell ?_ ?_ _; rotate_left; focus (first | with_reducible exact Nat.le_refl _ | (simp; done) | (simp; omega) | (simp at *; omega))) | with_reducible refine ch_trans ?_ (by with_reducible assumption)))⟩

set_option maxRecDepth 100000 in
/-- laws.eqCat -/
theorem eqCat_same (av bv : Value) (ts : List Tc) (w : World) (ha : TabsV w av ts) (hb : TabsV w bv ts) : Calls Try.prog 27 #[.agg #[av], .agg #[bv]] w fun e w' => e = .returned (.bool true) ∧ Below w.heap.size w w' := by
  obtain ⟨a, cap, rfl, hl, hm⟩ := ha.lit
  obtain ⟨a', cap', rfl, hl', hm'⟩ := hb.lit
  have HC : Hid (TabsV w (.slice a ts.length cap) ts) := ha
  have HC' : Hid (TabsV w (.slice a' ts.length cap') ts) := hb
  clear ha hb
  go_enter Try.func27, Try.ntmps27
  go_wp2_with fail
  refine (eqTableS_same _ _ ts _ (HC.out.on (by repeat (first | with_reducible exact Below.refl _ _ | with_reducible assumption | with_reducible refine ch_alloc ?_ _ | with_reducible refine Below.drew ?_ | with_reducible refine below_draws _ ?_ | (with_reducible refine Below.setCell ?_ ?_ _; rotate_left; focus (first | with_reducible exact Nat.le_refl _ | (simp; done) | (simp; omega) | (simp at *; omega))) | with_reducible refine ch_trans ?_ (by with_reducible assumption)))) (HC'.out.on (by repeat (first | with_reducible exact Below.refl _ _ | with_reducible assumption | with_reducible refine ch_alloc ?_ _ | with_reducible refine Below.drew ?_ | with_reducible refine below_draws _ ?_ | (with_reducible refine Below.setCell ?_ ?_ _; rotate_left; focus (first | with_reducible exact Nat.le_refl _ | (simp; done) | (simp; omega) | (simp at *; omega))) | with_reducible refine ch_trans ?_ (by with_reducible assumption))))).mono ?_
  rintro e w1 ⟨rfl, b1⟩
  go_wp2
  go_ret
  exact ⟨rfl, (by repeat (first | with_reducible exact Below.refl _ _ | with_reducible assumption | with_reducible refine ch_alloc ?_ _ | with_reducible refine Below.drew ?_ | with_reducible refine below_draws _ ?_ | (with_reducible refine Below.setCell ?_ ?_ _; rotate_left; focus (first | with_reducible exact Nat.le_refl _ | (simp; done) | (simp; omega) | (simp at *; omega))) | with_reducible refine ch_trans ?_ (by with_reducible assumption)))⟩

set_option maxRecDepth 100000 in
set_option maxHeartbeats 1000000 in
/-- laws.toTableS -/
theorem toTableS_any (v : Value) (ts : List Tc) (w : World) (hx : TabsV w v ts) (hf : fews ts) :
    Calls Try.prog 47 #[v] w fun e w' => ∃ y, e = .returned y ∧ Below w.heap.size w w' ∧ TabsN w' y ts w.heap.size := by
  obtain ⟨a, cap, rfl, hl, hm⟩ := hx.lit
  unfold maxLen at hm
  have HX : Hid (TabsV w (.slice a ts.length cap) ts) := hx
  obtain ⟨hn, hf⟩ := hf
  have HF : Hid (∀ t ∈ ts, t.few) := hf
  clear hx hf
  have hmk := run_makes (P := Try.prog) 32 47 (.agg #[.string ByteArray.empty, .slice none 0 0, .slice none 0 0]) _ 3 64 Try.underlying32 (by kernel_rfl) rfl .i64 .i64 ts.length (by omega) (by omega)
  go_enter Try.func47, Try.ntmps47
  go_wp2
  have HT : Hid (Tfill (w.alloc (.cells (madeCells #[.string ByteArray.empty, .slice none 0 0, .slice none 0 0] (ts.length * 3)) 47)) w.heap.size 47 ts 0) := ⟨[], Fill.new w _ 3 ts.length _ (size_madeCells _ _), rfl, fun i h => by simp at h⟩
  go_loopw [4] (fun i wr => ∃ k : Nat, k ≤ ts.length ∧ i = .int .i64 k ∧ Below w.heap.size w wr ∧ Hid (Tfill wr w.heap.size 47 ts k)) (fun i _ => ts.length - (intOf i).toNat)
  case atStart => exact ⟨0, Nat.zero_le _, rfl, (by repeat (first | with_reducible exact Below.refl _ _ | with_reducible assumption | with_reducible refine ch_alloc ?_ _ | with_reducible refine Below.drew ?_ | with_reducible refine below_draws _ ?_ | (with_reducible refine Below.setCell ?_ ?_ _; rotate_left; focus (first | with_reducible exact Nat.le_refl _ | (simp; done) | (simp; omega) | (simp at *; omega))) | with_reducible refine ch_trans ?_ (by with_reducible assumption))), HT⟩
  case round =>
    clear HT
    obtain ⟨k, hk, rfl, hb, HT⟩ := hrel
    by_cases hlt : k < ts.length
    · have hlti : (k : Int) < ts.length := by omega
      obtain ⟨b, off, c1, p1, c2, p2, rfl, d0, d1, d2, hx⟩ := (HX.out.on hb).tab k hlt
      have HY : Hid (TabV wr #[.string ts[k].name, .slice c1 ts[k].cols.length p1, .slice c2 ts[k].keys.length p2] ts[k]) := hx
      clear hx
      go_wp2_with fail
      refine (toTable_any _ ts[k] _ (HY.out.on (by repeat (first | with_reducible exact Below.refl _ _ | with_reducible assumption | with_reducible refine ch_alloc ?_ _ | with_reducible refine Below.drew ?_ | with_reducible refine below_draws _ ?_ | (with_reducible refine Below.setCell ?_ ?_ _; rotate_left; focus (first | with_reducible exact Nat.le_refl _ | (simp; done) | (simp; omega) | (simp at *; omega))) | with_reducible refine ch_trans ?_ (by with_reducible assumption)))) (HF.out _ (List.getElem_mem hlt))).mono ?_
      rintro e w1 ⟨y, rfl, b1, hy, hyf⟩
      obtain ⟨a4, p4, o4, q4, rfl, hx4, _, _⟩ := hy.lit
      have hB : w.heap.size + 1 ≤ wr.heap.size := by
        obtain ⟨ys, hF, _, _⟩ := HT.out
        exact hF.lt
      have hT1 := HT.out.on b1
      have HT' : Hid (Tfill (stores w1 w.heap.size (k * 3) [.string ts[k].name, .slice a4 ts[k].cols.length p4, .slice o4 ts[k].keys.length q4]) w.heap.size 47 ts (k + 1)) := hT1.put hlt hx4 (fun v hv => (hyf v hv).mono hB) rfl
      obtain ⟨ys, hF, hyl, _⟩ := hT1
      obtain ⟨v0, v1, v2, ⟨g0, g1, g2⟩, f0, f1, f2⟩ := hF.three (k := k) hyl hlt
      clear hy hyf hx4 hF hyl
      go_wp2
      go_round
      case rel => exact ⟨k + 1, by omega, by go_num, (by repeat (first | with_reducible exact Below.refl _ _ | with_reducible assumption | with_reducible refine ch_alloc ?_ _ | with_reducible refine Below.drew ?_ | with_reducible refine below_draws _ ?_ | (with_reducible refine Below.setCell ?_ ?_ _; rotate_left; focus (first | with_reducible exact Nat.le_refl _ | (simp; done) | (simp; omega) | (simp at *; omega))) | with_reducible refine ch_trans ?_ (by with_reducible assumption))), HT'⟩
      case measure => simp [intOf]; omega
    · have hlti : (ts.length : Int) ≤ k := by omega
      obtain rfl : k = ts.length := by omega
      have HD := HT.out.done (by unfold maxLen; omega)
      have HD' : Hid _ := HD
      clear HD
      go_wp2
      go_ret
      exact ⟨_, rfl, (by repeat (first | with_reducible exact Below.refl _ _ | with_reducible assumption | with_reducible refine ch_alloc ?_ _ | with_reducible refine Below.drew ?_ | with_reducible refine below_draws _ ?_ | (with_reducible refine Below.setCell ?_ ?_ _; rotate_left; focus (first | with_reducible exact Nat.le_refl _ | (simp; done) | (simp; omega) | (simp at *; omega))) | with_reducible refine ch_trans ?_ (by with_reducible assumption))), HD'.out⟩
end Go.Proofs.Ytiijahoheajppab
