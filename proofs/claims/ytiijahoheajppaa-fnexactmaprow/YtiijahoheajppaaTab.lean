/- Tables in memory: the laws' size, copy and look. -/
import Derived.Test.YtiijahoheajppaaTb
import Derived.Test.YtiijahoheajppaaEqVal
import Derived.Deep.RegionWith
namespace Go.Proofs.Ytiijahoheajppaa
open Go.ChangeShapes Go.WideShapes Go.ChangeAt Go.RowKit

/-- What a table holds. -/
structure Tc where
  name : ByteArray
  cols : List Cl
  keys : List ByteArray
def Cl.fit (c : Cl) : Prop := c.name.size ≤ maxLen ∧ c.ds.size ≤ maxLen
def Tc.fit (t : Tc) : Prop := t.name.size ≤ maxLen ∧ (∀ c ∈ t.cols, c.name.size ≤ maxLen ∧ c.ds.size ≤ maxLen) ∧ ∀ s ∈ t.keys, s.size ≤ maxLen
/-- A table's cells. -/
def TabV (w : World) (x : Array Value) (t : Tc) : Prop := ∃ cv kv, x = #[.string t.name, cv, kv] ∧ ColsV w cv t.cols ∧ StrsV w kv t.keys
theorem TabV.on {w w' : World} {x : Array Value} {t : Tc} (h : TabV w x t) (b : Below w.heap.size w w') : TabV w' x t := by
  obtain ⟨cv, kv, e, h1, h2⟩ := h; exact ⟨cv, kv, e, h1.on b, h2.on b⟩
theorem TabV.lit {w : World} {x : Array Value} {t : Tc} (h : TabV w x t) : ∃ a p b q, x = #[.string t.name, .slice a t.cols.length p, .slice b t.keys.length q] ∧ TabV w #[.string t.name, .slice a t.cols.length p, .slice b t.keys.length q] t ∧ ColsV w (.slice a t.cols.length p) t.cols ∧ StrsV w (.slice b t.keys.length q) t.keys := by
  obtain ⟨cv, kv, rfl, hc, hk⟩ := h
  obtain ⟨a, p, rfl, hc'⟩ := id hc
  obtain ⟨b, q, rfl, hk'⟩ := id hk
  exact ⟨a, p, b, q, rfl, ⟨_, _, rfl, hc, hk⟩, hc, hk⟩
/-- A table's rows lie from block B on. -/
def TabFrom (x : Array Value) (B : Nat) : Prop := ∀ v ∈ x.toList, From v B
theorem tabFrom_mk (s : ByteArray) {cv kv : Value} {B : Nat} (h1 : From cv B) (h2 : From kv B) : TabFrom #[.string s, cv, kv] B := by
  intro v hv
  simp at hv
  rcases hv with rfl | rfl | rfl
  · intro a n c e; cases e
  · exact h1
  · exact h2
/-- No list is longer than the laws look. -/
def Tc.few (t : Tc) : Prop := t.cols.length ≤ 1048576 ∧ t.keys.length ≤ 1048576

set_option maxRecDepth 100000 in
set_option maxHeartbeats 1000000 in
/-- laws.szTable -/
theorem szTable_any (x : Array Value) (t : Tc) (l : Int) (w : World) (hx : TabV w x t) (hf : t.fit) (h0 : 0 ≤ l) (h1 : l ≤ 1048576) :
    Calls Try.prog 7 #[.agg x, .int .i64 l] w fun e w' => ∃ r : Int, e = .returned (.int .i64 r) ∧ Below w.heap.size w w' ∧ (r = -1 ∨ (0 ≤ r ∧ r ≤ l ∧ t.few)) := by
  obtain ⟨cv, kv, rfl, hc, hk⟩ := hx
  obtain ⟨name, cs, ks⟩ := t
  obtain ⟨hn, hfc, hfk⟩ := hf
  simp only at hn hfc hfk hc hk
  unfold maxLen at hn
  by_cases ha : l - name.size < 0
  · clear hc hk hfc hfk
    go_enter Try.func7, Try.ntmps7
    go_wp2
    go_ret
    exact ⟨_, rfl, (by repeat (first | with_reducible exact Below.refl _ _ | with_reducible assumption | with_reducible refine ch_alloc ?_ _ | with_reducible refine Below.drew ?_ | with_reducible refine below_draws _ ?_ | (with_reducible refine Below.setCell ?_ ?_ _; rotate_left; focus (first | with_reducible exact Nat.le_refl _ | (simp; done) | (simp; omega) | (simp at *; omega))) | with_reducible refine ch_trans ?_ (by with_reducible assumption))), Or.inl rfl⟩
  have HC : Hid (ColsV w cv cs) := hc
  have HK : Hid (StrsV w kv ks) := hk
  have HS : Hid (∀ u : World, ColsV u cv cs → Calls Try.prog 28 #[cv, .int .i64 (l - name.size)] u fun e w' => ∃ r : Int, e = .returned (.int .i64 r) ∧ Below u.heap.size u w' ∧ (r = -1 ∨ (0 ≤ r ∧ r ≤ l - name.size ∧ cs.length ≤ 1048576))) := fun u hu => szColS_any cv cs _ u hu hfc (by omega) (by omega)
  have HT : Hid (∀ (r : Int) (u : World), StrsV u kv ks → 0 ≤ r → r ≤ 1048576 → Calls Try.prog 6 #[kv, .int .i64 r] u fun e w' => ∃ q : Int, e = .returned (.int .i64 q) ∧ Below u.heap.size u w' ∧ (q = -1 ∨ (0 ≤ q ∧ q ≤ r ∧ ks.length ≤ 1048576))) := fun r u hu g0 g1 => szStringS_any kv ks r u hu hfk g0 g1
  have HL := Loc.new w #[.string name, cv, kv] 25
  clear hc hk hfc hfk
  go_enter Try.func7, Try.ntmps7
  go_wp2_with fail
  refine (HS.out _ (HC.out.on (by repeat (first | with_reducible exact Below.refl _ _ | with_reducible assumption | with_reducible refine ch_alloc ?_ _ | with_reducible refine Below.drew ?_ | with_reducible refine below_draws _ ?_ | (with_reducible refine Below.setCell ?_ ?_ _; rotate_left; focus (first | with_reducible exact Nat.le_refl _ | (simp; done) | (simp; omega) | (simp at *; omega))) | with_reducible refine ch_trans ?_ (by with_reducible assumption))))).mono ?_
  rintro e w1 ⟨r, rfl, b1, hr⟩
  have HL1 := HL.on b1
  obtain ⟨c0, c1, c2⟩ := HL1.three
  rcases hr with rfl | ⟨r0, r1, r2⟩
  · go_wp2
    go_ret
    exact ⟨_, rfl, (by repeat (first | with_reducible exact Below.refl _ _ | with_reducible assumption | with_reducible refine ch_alloc ?_ _ | with_reducible refine Below.drew ?_ | with_reducible refine below_draws _ ?_ | (with_reducible refine Below.setCell ?_ ?_ _; rotate_left; focus (first | with_reducible exact Nat.le_refl _ | (simp; done) | (simp; omega) | (simp at *; omega))) | with_reducible refine ch_trans ?_ (by with_reducible assumption))), Or.inl rfl⟩
  have HK1 : Hid (StrsV w1 kv ks) := HK.out.on (by repeat (first | with_reducible exact Below.refl _ _ | with_reducible assumption | with_reducible refine ch_alloc ?_ _ | with_reducible refine Below.drew ?_ | with_reducible refine below_draws _ ?_ | (with_reducible refine Below.setCell ?_ ?_ _; rotate_left; focus (first | with_reducible exact Nat.le_refl _ | (simp; done) | (simp; omega) | (simp at *; omega))) | with_reducible refine ch_trans ?_ (by with_reducible assumption)))
  go_wp2_with fail
  refine (HT.out r _ HK1.out r0 (by omega)).mono ?_
  rintro e w2 ⟨q, rfl, b2, hq⟩
  rcases hq with rfl | ⟨q0, q1, q2⟩
  · go_wp2
    go_ret
    exact ⟨_, rfl, (by repeat (first | with_reducible exact Below.refl _ _ | with_reducible assumption | with_reducible refine ch_alloc ?_ _ | with_reducible refine Below.drew ?_ | with_reducible refine below_draws _ ?_ | (with_reducible refine Below.setCell ?_ ?_ _; rotate_left; focus (first | with_reducible exact Nat.le_refl _ | (simp; done) | (simp; omega) | (simp at *; omega))) | with_reducible refine ch_trans ?_ (by with_reducible assumption))), Or.inl rfl⟩
  · go_wp2
    go_ret
    exact ⟨_, rfl, (by repeat (first | with_reducible exact Below.refl _ _ | with_reducible assumption | with_reducible refine ch_alloc ?_ _ | with_reducible refine Below.drew ?_ | with_reducible refine below_draws _ ?_ | (with_reducible refine Below.setCell ?_ ?_ _; rotate_left; focus (first | with_reducible exact Nat.le_refl _ | (simp; done) | (simp; omega) | (simp at *; omega))) | with_reducible refine ch_trans ?_ (by with_reducible assumption))), Or.inr ⟨q0, by omega, r2, q2⟩⟩

set_option maxRecDepth 100000 in
set_option maxHeartbeats 1000000 in
/-- laws.toTable -/
theorem toTable_any (x : Array Value) (t : Tc) (w : World) (hx : TabV w x t) (hf : t.few) :
    Calls Try.prog 10 #[.agg x] w fun e w' => ∃ y, e = .returned (.agg y) ∧ Below w.heap.size w w' ∧ TabV w' y t ∧ TabFrom y w.heap.size := by
  obtain ⟨cv, kv, rfl, hc, hk⟩ := hx
  obtain ⟨name, cs, ks⟩ := t
  obtain ⟨hfc, hfk⟩ := hf
  simp only at hfc hfk hc hk
  have HC : Hid (ColsV w cv cs) := hc
  have HK : Hid (StrsV w kv ks) := hk
  have HL := Loc.new w #[.string name, cv, kv] 25
  clear hc hk
  go_enter Try.func10, Try.ntmps10
  go_wp2_with fail
  refine (toColS_any cv cs _ (HC.out.on (by repeat (first | with_reducible exact Below.refl _ _ | with_reducible assumption | with_reducible refine ch_alloc ?_ _ | with_reducible refine Below.drew ?_ | with_reducible refine below_draws _ ?_ | (with_reducible refine Below.setCell ?_ ?_ _; rotate_left; focus (first | with_reducible exact Nat.le_refl _ | (simp; done) | (simp; omega) | (simp at *; omega))) | with_reducible refine ch_trans ?_ (by with_reducible assumption)))) hfc).mono ?_
  rintro e w1 ⟨cv', rfl, b1, hc1, hf1⟩
  obtain ⟨a1, p1, rfl, hc1⟩ := hc1
  have HC1 : Hid (ColsV w1 (.slice a1 cs.length p1) cs) := ⟨a1, p1, rfl, hc1⟩
  have HF1 : Hid (From (.slice a1 cs.length p1) (w.heap.size + 1 + 1 + 1)) := by show From _ _; simpa using hf1
  clear hc1 hf1
  have HL1 := HL.on (w' := w1) (by repeat (first | with_reducible exact Below.refl _ _ | with_reducible assumption | with_reducible refine ch_alloc ?_ _ | with_reducible refine Below.drew ?_ | with_reducible refine below_draws _ ?_ | (with_reducible refine Below.setCell ?_ ?_ _; rotate_left; focus (first | with_reducible exact Nat.le_refl _ | (simp; done) | (simp; omega) | (simp at *; omega))) | with_reducible refine ch_trans ?_ (by with_reducible assumption)))
  obtain ⟨c0, c1, c2⟩ := HL1.three
  have HO : Own w1 (w.heap.size + 1 + 1) 32 #[.string name, .slice none 0 0, .slice none 0 0] := (Own.at ((w.alloc (.cells #[.string name, cv, kv] 25)).alloc (.cells #[.string { data := #[] }, .slice none 0 0, .slice none 0 0] 32)) _ _ (by simp)).on b1
  have HQ : Own w1 (w.heap.size + 1) 32 #[.string { data := #[] }, .slice none 0 0, .slice none 0 0] := ((Own.at (w.alloc (.cells #[.string name, cv, kv] 25)) _ _ (by simp)).on (ch_alloc (Below.refl _ _) _)).on b1
  obtain ⟨d0, d1, d2⟩ := HO.loc.three
  have f1 := HO.frozen 1
  go_wp2_with fail
  refine (toStringS_any kv ks _ (HK.out.on (by repeat (first | with_reducible exact Below.refl _ _ | with_reducible assumption | with_reducible refine ch_alloc ?_ _ | with_reducible refine Below.drew ?_ | with_reducible refine below_draws _ ?_ | (with_reducible refine Below.setCell ?_ ?_ _; rotate_left; focus (first | with_reducible exact Nat.le_refl _ | (simp; done) | (simp; omega) | (simp at *; omega))) | with_reducible refine ch_trans ?_ (by with_reducible assumption)))) hfk).mono ?_
  rintro e w2 ⟨kv', rfl, b2, hk2, hf2⟩
  obtain ⟨a2, p2, rfl, hk2⟩ := hk2
  have HK2 : Hid (StrsV w2 (.slice a2 ks.length p2) ks) := ⟨a2, p2, rfl, hk2⟩
  have HC2 : Hid (ColsV w2 (.slice a1 cs.length p1) cs) := (HC1.out.set HF1.out (p := ⟨w.heap.size + 1 + 1, 1, none⟩) (by simp) _).on b2
  have hsz : w.heap.size + 1 + 1 + 1 ≤ w1.heap.size := by simpa using b1.size
  have HF2 : Hid (From (.slice a2 ks.length p2) (w.heap.size + 1 + 1 + 1)) := hf2.mono (by simpa using hsz)
  clear hk2 hf2
  have HO2 : Own w2 (w.heap.size + 1 + 1) 32 #[.string name, .slice a1 cs.length p1, .slice none 0 0] := (HO.set 1 _).on b2
  clear c0 c1 c2 d0 d1 d2 f1
  obtain ⟨d0, d1, d2⟩ := HO2.loc.three
  have f2 := HO2.frozen 2
  have HQ2 : Own w2 (w.heap.size + 1) 32 #[.string { data := #[] }, .slice none 0 0, .slice none 0 0] := (HQ.other (p := ⟨w.heap.size + 1 + 1, 1, none⟩) (by simp) _).on b2
  obtain ⟨g0, g1, g2⟩ := HQ2.loc.three
  have i0 := HQ2.frozen 0
  have i1 := HQ2.frozen 1
  have i2 := HQ2.frozen 2
  go_wp2
  have HQ3 : Own _ _ _ #[.string name, .slice a1 cs.length p1, .slice a2 ks.length p2] := ((((HQ2.other (p := ⟨w.heap.size + 1 + 1, 2, none⟩) (by simp) (.slice a2 ks.length p2)).set 0 (.string name)).set 1 (.slice a1 cs.length p1)).set 2 (.slice a2 ks.length p2))
  have HB : Hid (Below w.heap.size w ((((w2.setCell ⟨w.heap.size + 1 + 1, 2, none⟩ (.slice a2 ks.length p2)).setCell ⟨w.heap.size + 1, 0, none⟩ (.string name)).setCell ⟨w.heap.size + 1, 1, none⟩ (.slice a1 cs.length p1)).setCell ⟨w.heap.size + 1, 2, none⟩ (.slice a2 ks.length p2))) := by
    show Below _ _ _
    exact (by repeat (first | with_reducible exact Below.refl _ _ | with_reducible assumption | with_reducible refine ch_alloc ?_ _ | with_reducible refine Below.drew ?_ | with_reducible refine below_draws _ ?_ | (with_reducible refine Below.setCell ?_ ?_ _; rotate_left; focus (first | with_reducible exact Nat.le_refl _ | (simp; done) | (simp; omega) | (simp at *; omega))) | with_reducible refine ch_trans ?_ (by with_reducible assumption)))
  have HC3 : Hid (ColsV ((((w2.setCell ⟨w.heap.size + 1 + 1, 2, none⟩ (.slice a2 ks.length p2)).setCell ⟨w.heap.size + 1, 0, none⟩ (.string name)).setCell ⟨w.heap.size + 1, 1, none⟩ (.slice a1 cs.length p1)).setCell ⟨w.heap.size + 1, 2, none⟩ (.slice a2 ks.length p2)) (.slice a1 cs.length p1) cs) := (((HC2.out.set HF1.out (by simp) _).set HF1.out (by simp) _).set HF1.out (by simp) _).set HF1.out (by simp) _
  have HK3 : Hid (StrsV ((((w2.setCell ⟨w.heap.size + 1 + 1, 2, none⟩ (.slice a2 ks.length p2)).setCell ⟨w.heap.size + 1, 0, none⟩ (.string name)).setCell ⟨w.heap.size + 1, 1, none⟩ (.slice a1 cs.length p1)).setCell ⟨w.heap.size + 1, 2, none⟩ (.slice a2 ks.length p2)) (.slice a2 ks.length p2) ks) := (((HK2.out.set HF2.out (by simp) _).set HF2.out (by simp) _).set HF2.out (by simp) _).set HF2.out (by simp) _
  generalize ((((w2.setCell ⟨w.heap.size + 1 + 1, 2, none⟩ (.slice a2 ks.length p2)).setCell ⟨w.heap.size + 1, 0, none⟩ (.string name)).setCell ⟨w.heap.size + 1, 1, none⟩ (.slice a1 cs.length p1)).setCell ⟨w.heap.size + 1, 2, none⟩ (.slice a2 ks.length p2)) = W at HQ3 HB HC3 HK3 ⊢
  obtain ⟨e0, e1, e2⟩ := HQ3.loc.three
  exact bodyPost_ret (v := .agg #[.string name, .slice a1 cs.length p1, .slice a2 ks.length p2]) (by simp [results, Try.results10, go_sem, e0, e1, e2]) rfl ⟨_, rfl, HB.out, ⟨_, _, rfl, HC3.out, HK3.out⟩, tabFrom_mk _ (HF1.out.mono (by omega)) (HF2.out.mono (by omega))⟩

set_option maxRecDepth 100000 in
/-- laws.eqCol -/
theorem eqCol_same (c : Cl) (w : World) : Calls Try.prog 63 #[c.v, c.v] w fun e w' => e = .returned (.bool true) ∧ Below w.heap.size w w' := by
  go_enter Try.func63, Try.ntmps63
  go_wp2_with (go_at_call 48; refine (eqVal_same _ _ _ _).mono ?_; rintro e w' ⟨rfl, hw⟩; subst w')
  go_ret
  exact ⟨rfl, (by repeat (first | with_reducible exact Below.refl _ _ | with_reducible assumption | with_reducible refine ch_alloc ?_ _ | with_reducible refine Below.drew ?_ | with_reducible refine below_draws _ ?_ | (with_reducible refine Below.setCell ?_ ?_ _; rotate_left; focus (first | with_reducible exact Nat.le_refl _ | (simp; done) | (simp; omega) | (simp at *; omega))) | with_reducible refine ch_trans ?_ (by with_reducible assumption)))⟩

set_option maxRecDepth 100000 in
set_option maxHeartbeats 1000000 in
/-- laws.eqColS -/
theorem eqColS_same (av bv : Value) (cs : List Cl) (w : World) (ha : ColsV w av cs) (hb : ColsV w bv cs) : Calls Try.prog 42 #[av, bv] w fun e w' => e = .returned (.bool true) ∧ Below w.heap.size w w' := by
  obtain ⟨a, cap, rfl, hl, hm, hc⟩ := ha
  obtain ⟨a', cap', rfl, hl', hm', hc'⟩ := hb
  unfold maxLen at hm
  have HC : Hid (RowAt w a 7 (cs.map Cl.cells)) := hc
  have HC' : Hid (RowAt w a' 7 (cs.map Cl.cells)) := hc'
  clear hc hc' hm' hl'
  go_enter Try.func42, Try.ntmps42
  go_wp2
  go_loopw [5] (fun i wr => ∃ k : Nat, k ≤ cs.length ∧ i = .int .i64 k ∧ Below w.heap.size w wr) (fun i _ => cs.length - (intOf i).toNat)
  case atStart => exact ⟨0, Nat.zero_le _, rfl, (by repeat (first | with_reducible exact Below.refl _ _ | with_reducible assumption | with_reducible refine ch_alloc ?_ _ | with_reducible refine Below.drew ?_ | with_reducible refine below_draws _ ?_ | (with_reducible refine Below.setCell ?_ ?_ _; rotate_left; focus (first | with_reducible exact Nat.le_refl _ | (simp; done) | (simp; omega) | (simp at *; omega))) | with_reducible refine ch_trans ?_ (by with_reducible assumption)))⟩
  case round =>
    obtain ⟨k, hk, rfl, hb⟩ := hrel
    by_cases hlt : k < cs.length
    · have hlti : (k : Int) < cs.length := by omega
      obtain ⟨b, off, rfl, c0, c1, c2, c3, c4, c5, c6⟩ := (HC.out.on hb).cols k hlt
      obtain ⟨b', off', rfl, d0, d1, d2, d3, d4, d5, d6⟩ := (HC'.out.on hb).cols k hlt
      have HS : Hid (∀ w : World, Calls Try.prog 63 #[cs[k].v, cs[k].v] w fun e w' => e = .returned (.bool true) ∧ Below w.heap.size w w') := fun w => eqCol_same cs[k] w
      go_wp2_with fail
      go_region_with (go_at_call 63; refine (HS.out _).mono ?_; rintro e w1 ⟨rfl, b1⟩)
      all_goals
        go_wp2
        go_round
        case rel => exact ⟨k + 1, by omega, by go_num, (by repeat (first | with_reducible exact Below.refl _ _ | with_reducible assumption | with_reducible refine ch_alloc ?_ _ | with_reducible refine Below.drew ?_ | with_reducible refine below_draws _ ?_ | (with_reducible refine Below.setCell ?_ ?_ _; rotate_left; focus (first | with_reducible exact Nat.le_refl _ | (simp; done) | (simp; omega) | (simp at *; omega))) | with_reducible refine ch_trans ?_ (by with_reducible assumption)))⟩
        case measure => simp [intOf]; omega
    · have hlti : (cs.length : Int) ≤ k := by omega
      go_wp2
      go_ret
      exact ⟨rfl, (by repeat (first | with_reducible exact Below.refl _ _ | with_reducible assumption | with_reducible refine ch_alloc ?_ _ | with_reducible refine Below.drew ?_ | with_reducible refine below_draws _ ?_ | (with_reducible refine Below.setCell ?_ ?_ _; rotate_left; focus (first | with_reducible exact Nat.le_refl _ | (simp; done) | (simp; omega) | (simp at *; omega))) | with_reducible refine ch_trans ?_ (by with_reducible assumption)))⟩

set_option maxRecDepth 100000 in
set_option maxHeartbeats 1000000 in
/-- laws.eqStringS -/
theorem eqStringS_same (av bv : Value) (ks : List ByteArray) (w : World) (ha : StrsV w av ks) (hb : StrsV w bv ks) : Calls Try.prog 12 #[av, bv] w fun e w' => e = .returned (.bool true) ∧ Below w.heap.size w w' := by
  obtain ⟨a, cap, rfl, hl, hm, hc⟩ := ha
  obtain ⟨a', cap', rfl, hl', hm', hc'⟩ := hb
  unfold maxLen at hm
  have HC : Hid (RowAt w a 1 (ks.map strX)) := hc
  have HC' : Hid (RowAt w a' 1 (ks.map strX)) := hc'
  clear hc hc' hm' hl'
  go_enter Try.func12, Try.ntmps12
  go_wp2
  go_loopw [5] (fun i wr => ∃ k : Nat, k ≤ ks.length ∧ i = .int .i64 k ∧ Below w.heap.size w wr) (fun i _ => ks.length - (intOf i).toNat)
  case atStart => exact ⟨0, Nat.zero_le _, rfl, (by repeat (first | with_reducible exact Below.refl _ _ | with_reducible assumption | with_reducible refine ch_alloc ?_ _ | with_reducible refine Below.drew ?_ | with_reducible refine below_draws _ ?_ | (with_reducible refine Below.setCell ?_ ?_ _; rotate_left; focus (first | with_reducible exact Nat.le_refl _ | (simp; done) | (simp; omega) | (simp at *; omega))) | with_reducible refine ch_trans ?_ (by with_reducible assumption)))⟩
  case round =>
    obtain ⟨k, hk, rfl, hb⟩ := hrel
    by_cases hlt : k < ks.length
    · have hlti : (k : Int) < ks.length := by omega
      obtain ⟨b, off, rfl, c0⟩ := (HC.out.on hb).strs k hlt
      obtain ⟨b', off', rfl, d0⟩ := (HC'.out.on hb).strs k hlt
      go_wp2
      go_region
      all_goals
        go_wp2
        go_round
        case rel => exact ⟨k + 1, by omega, by go_num, (by repeat (first | with_reducible exact Below.refl _ _ | with_reducible assumption | with_reducible refine ch_alloc ?_ _ | with_reducible refine Below.drew ?_ | with_reducible refine below_draws _ ?_ | (with_reducible refine Below.setCell ?_ ?_ _; rotate_left; focus (first | with_reducible exact Nat.le_refl _ | (simp; done) | (simp; omega) | (simp at *; omega))) | with_reducible refine ch_trans ?_ (by with_reducible assumption)))⟩
        case measure => simp [intOf]; omega
    · have hlti : (ks.length : Int) ≤ k := by omega
      go_wp2
      go_ret
      exact ⟨rfl, (by repeat (first | with_reducible exact Below.refl _ _ | with_reducible assumption | with_reducible refine ch_alloc ?_ _ | with_reducible refine Below.drew ?_ | with_reducible refine below_draws _ ?_ | (with_reducible refine Below.setCell ?_ ?_ _; rotate_left; focus (first | with_reducible exact Nat.le_refl _ | (simp; done) | (simp; omega) | (simp at *; omega))) | with_reducible refine ch_trans ?_ (by with_reducible assumption)))⟩

set_option maxRecDepth 100000 in
set_option maxHeartbeats 1000000 in
/-- laws.eqTable -/
theorem eqTable_same (x y : Array Value) (t : Tc) (w : World) (hx : TabV w x t) (hy : TabV w y t) : Calls Try.prog 13 #[.agg x, .agg y] w fun e w' => e = .returned (.bool true) ∧ Below w.heap.size w w' := by
  obtain ⟨cv, kv, rfl, hc, hk⟩ := hx
  obtain ⟨cv', kv', rfl, hc', hk'⟩ := hy
  obtain ⟨name, cs, ks⟩ := t
  simp only at hc hk hc' hk'
  have HC : Hid (ColsV w cv cs ∧ ColsV w cv' cs) := ⟨hc, hc'⟩
  have HK : Hid (StrsV w kv ks ∧ StrsV w kv' ks) := ⟨hk, hk'⟩
  clear hc hk hc' hk'
  have HL := Loc.new w #[.string name, cv, kv] 32
  have HM := Loc.new (w.alloc (.cells #[.string name, cv, kv] 32)) #[.string name, cv', kv'] 32
  go_enter Try.func13, Try.ntmps13
  go_wp2_with fail
  refine (eqColS_same cv cv' cs _ (HC.out.1.on (by repeat (first | with_reducible exact Below.refl _ _ | with_reducible assumption | with_reducible refine ch_alloc ?_ _ | with_reducible refine Below.drew ?_ | with_reducible refine below_draws _ ?_ | (with_reducible refine Below.setCell ?_ ?_ _; rotate_left; focus (first | with_reducible exact Nat.le_refl _ | (simp; done) | (simp; omega) | (simp at *; omega))) | with_reducible refine ch_trans ?_ (by with_reducible assumption)))) (HC.out.2.on (by repeat (first | with_reducible exact Below.refl _ _ | with_reducible assumption | with_reducible refine ch_alloc ?_ _ | with_reducible refine Below.drew ?_ | with_reducible refine below_draws _ ?_ | (with_reducible refine Below.setCell ?_ ?_ _; rotate_left; focus (first | with_reducible exact Nat.le_refl _ | (simp; done) | (simp; omega) | (simp at *; omega))) | with_reducible refine ch_trans ?_ (by with_reducible assumption))))).mono ?_
  rintro e w1 ⟨rfl, b1⟩
  have HL1 := HL.on (w' := w1) (by repeat (first | with_reducible exact Below.refl _ _ | with_reducible assumption | with_reducible refine ch_alloc ?_ _ | with_reducible refine Below.drew ?_ | with_reducible refine below_draws _ ?_ | (with_reducible refine Below.setCell ?_ ?_ _; rotate_left; focus (first | with_reducible exact Nat.le_refl _ | (simp; done) | (simp; omega) | (simp at *; omega))) | with_reducible refine ch_trans ?_ (by with_reducible assumption)))
  obtain ⟨c0, c1, c2⟩ := HL1.three
  have HM1 := HM.on b1
  rw [show (w.alloc (.cells #[.string name, cv, kv] 32)).heap.size = w.heap.size + 1 from by simp] at HM1
  obtain ⟨d0, d1, d2⟩ := HM1.three
  go_wp2_with fail
  refine (eqStringS_same kv kv' ks _ (HK.out.1.on (by repeat (first | with_reducible exact Below.refl _ _ | with_reducible assumption | with_reducible refine ch_alloc ?_ _ | with_reducible refine Below.drew ?_ | with_reducible refine below_draws _ ?_ | (with_reducible refine Below.setCell ?_ ?_ _; rotate_left; focus (first | with_reducible exact Nat.le_refl _ | (simp; done) | (simp; omega) | (simp at *; omega))) | with_reducible refine ch_trans ?_ (by with_reducible assumption)))) (HK.out.2.on (by repeat (first | with_reducible exact Below.refl _ _ | with_reducible assumption | with_reducible refine ch_alloc ?_ _ | with_reducible refine Below.drew ?_ | with_reducible refine below_draws _ ?_ | (with_reducible refine Below.setCell ?_ ?_ _; rotate_left; focus (first | with_reducible exact Nat.le_refl _ | (simp; done) | (simp; omega) | (simp at *; omega))) | with_reducible refine ch_trans ?_ (by with_reducible assumption))))).mono ?_
  rintro e w2 ⟨rfl, b2⟩
  go_wp2
  go_ret
  exact ⟨rfl, (by repeat (first | with_reducible exact Below.refl _ _ | with_reducible assumption | with_reducible refine ch_alloc ?_ _ | with_reducible refine Below.drew ?_ | with_reducible refine below_draws _ ?_ | (with_reducible refine Below.setCell ?_ ?_ _; rotate_left; focus (first | with_reducible exact Nat.le_refl _ | (simp; done) | (simp; omega) | (simp at *; omega))) | with_reducible refine ch_trans ?_ (by with_reducible assumption)))⟩
end Go.Proofs.Ytiijahoheajppaa
