/- Changes in memory: the laws' size, copy and look. -/
import Derived.Test.YtikccmgpmbnkfaaTab
namespace Go.Proofs.Ytikccmgpmbnkfaa
open Go.ChangeShapes Go.WideShapes Go.ChangeAt Go.RowKit

/-- What a change holds. -/
structure Dc where
  kind : Int
  table : ByteArray
  cols : List Cl
  keys : List ByteArray
  name : ByteArray
  to : ByteArray
def Dc.fit (d : Dc) : Prop := d.table.size ≤ maxLen ∧ (∀ c ∈ d.cols, c.name.size ≤ maxLen ∧ c.ds.size ≤ maxLen) ∧ (∀ s ∈ d.keys, s.size ≤ maxLen) ∧ d.name.size ≤ maxLen ∧ d.to.size ≤ maxLen
def Dc.few (d : Dc) : Prop := d.cols.length ≤ 1048576 ∧ d.keys.length ≤ 1048576
/-- A change's cells. -/
def DdlV (w : World) (x : Array Value) (d : Dc) : Prop := ∃ cv kv, x = #[.int .i64 d.kind, .string d.table, cv, kv, .string d.name, .string d.to] ∧ ColsV w cv d.cols ∧ StrsV w kv d.keys
theorem DdlV.on {w w' : World} {x : Array Value} {d : Dc} (h : DdlV w x d) (b : Below w.heap.size w w') : DdlV w' x d := by
  obtain ⟨cv, kv, e, h1, h2⟩ := h; exact ⟨cv, kv, e, h1.on b, h2.on b⟩
theorem DdlV.lit {w : World} {x : Array Value} {t : Dc} (h : DdlV w x t) : ∃ a p b q, x = #[.int .i64 t.kind, .string t.table, .slice a t.cols.length p, .slice b t.keys.length q, .string t.name, .string t.to] ∧ DdlV w #[.int .i64 t.kind, .string t.table, .slice a t.cols.length p, .slice b t.keys.length q, .string t.name, .string t.to] t ∧ ColsV w (.slice a t.cols.length p) t.cols ∧ StrsV w (.slice b t.keys.length q) t.keys := by
  obtain ⟨cv, kv, rfl, hc, hk⟩ := h
  obtain ⟨a, p, rfl, hc'⟩ := id hc
  obtain ⟨b, q, rfl, hk'⟩ := id hk
  exact ⟨a, p, b, q, rfl, ⟨_, _, rfl, hc, hk⟩, hc, hk⟩

set_option maxRecDepth 100000 in
set_option maxHeartbeats 1000000 in
/-- laws.szDdl -/
theorem szDdl_any (x : Array Value) (t : Dc) (l : Int) (w : World) (hx : DdlV w x t) (hf : t.fit) (h0 : 0 ≤ l) (h1 : l ≤ 1048576) :
    Calls Try.prog 39 #[.agg x, .int .i64 l] w fun e w' => ∃ r : Int, e = .returned (.int .i64 r) ∧ Below w.heap.size w w' ∧ (r = -1 ∨ (0 ≤ r ∧ r ≤ l ∧ t.few)) := by
  obtain ⟨cv, kv, rfl, hc, hk⟩ := hx
  obtain ⟨kind, table, cs, ks, name, to⟩ := t
  obtain ⟨hn, hfc, hfk, hnn, hnt⟩ := hf
  simp only at hn hfc hfk hnn hnt hc hk
  unfold maxLen at hn hnn hnt
  by_cases ha : l - table.size < 0
  · clear hc hk hfc hfk
    go_enter Try.func39, Try.ntmps39
    go_wp2
    go_ret
    exact ⟨_, rfl, (by repeat (first | with_reducible exact Below.refl _ _ | with_reducible assumption | with_reducible refine ch_alloc ?_ _ | with_reducible refine Below.drew ?_ | with_reducible refine below_draws _ ?_ | (with_reducible refine Below.setCell ?_ ?_ _; rotate_left; focus (first | with_reducible exact Nat.le_refl _ | (simp; done) | (simp; omega) | (simp at *; omega))) | with_reducible refine ch_trans ?_ (by with_reducible assumption))), Or.inl rfl⟩
  have HC : Hid (ColsV w cv cs) := hc
  have HK : Hid (StrsV w kv ks) := hk
  have HS : Hid (∀ u : World, ColsV u cv cs → Calls Try.prog 70 #[cv, .int .i64 (l - table.size)] u fun e w' => ∃ r : Int, e = .returned (.int .i64 r) ∧ Below u.heap.size u w' ∧ (r = -1 ∨ (0 ≤ r ∧ r ≤ l - table.size ∧ cs.length ≤ 1048576))) := fun u hu => szColS_any cv cs _ u hu hfc (by omega) (by omega)
  have HT : Hid (∀ (r : Int) (u : World), StrsV u kv ks → 0 ≤ r → r ≤ 1048576 → Calls Try.prog 71 #[kv, .int .i64 r] u fun e w' => ∃ q : Int, e = .returned (.int .i64 q) ∧ Below u.heap.size u w' ∧ (q = -1 ∨ (0 ≤ q ∧ q ≤ r ∧ ks.length ≤ 1048576))) := fun r u hu g0 g1 => szStringS_any kv ks r u hu hfk g0 g1
  have HL := Loc.new w #[.int .i64 kind, .string table, cv, kv, .string name, .string to] 49
  clear hc hk hfc hfk
  go_enter Try.func39, Try.ntmps39
  go_wp2_with fail
  refine (HS.out _ (HC.out.on (by repeat (first | with_reducible exact Below.refl _ _ | with_reducible assumption | with_reducible refine ch_alloc ?_ _ | with_reducible refine Below.drew ?_ | with_reducible refine below_draws _ ?_ | (with_reducible refine Below.setCell ?_ ?_ _; rotate_left; focus (first | with_reducible exact Nat.le_refl _ | (simp; done) | (simp; omega) | (simp at *; omega))) | with_reducible refine ch_trans ?_ (by with_reducible assumption))))).mono ?_
  rintro e w1 ⟨r, rfl, b1, hr⟩
  have HL1 := HL.on b1
  obtain ⟨c0, c1, c2, c3, c4, c5⟩ := HL1.six
  rcases hr with rfl | ⟨r0, r1, r2⟩
  · go_wp2
    go_ret
    exact ⟨_, rfl, (by repeat (first | with_reducible exact Below.refl _ _ | with_reducible assumption | with_reducible refine ch_alloc ?_ _ | with_reducible refine Below.drew ?_ | with_reducible refine below_draws _ ?_ | (with_reducible refine Below.setCell ?_ ?_ _; rotate_left; focus (first | with_reducible exact Nat.le_refl _ | (simp; done) | (simp; omega) | (simp at *; omega))) | with_reducible refine ch_trans ?_ (by with_reducible assumption))), Or.inl rfl⟩
  have HK1 : Hid (StrsV w1 kv ks) := HK.out.on (by repeat (first | with_reducible exact Below.refl _ _ | with_reducible assumption | with_reducible refine ch_alloc ?_ _ | with_reducible refine Below.drew ?_ | with_reducible refine below_draws _ ?_ | (with_reducible refine Below.setCell ?_ ?_ _; rotate_left; focus (first | with_reducible exact Nat.le_refl _ | (simp; done) | (simp; omega) | (simp at *; omega))) | with_reducible refine ch_trans ?_ (by with_reducible assumption)))
  go_wp2_with fail
  refine (HT.out r _ HK1.out r0 (by omega)).mono ?_
  rintro e w2 ⟨q, rfl, b2, hq⟩
  have HL2 := HL1.on b2
  clear c0 c1 c2 c3 c4 c5
  obtain ⟨c0, c1, c2, c3, c4, c5⟩ := HL2.six
  rcases hq with rfl | ⟨q0, q1, q2⟩
  · go_wp2
    go_ret
    exact ⟨_, rfl, (by repeat (first | with_reducible exact Below.refl _ _ | with_reducible assumption | with_reducible refine ch_alloc ?_ _ | with_reducible refine Below.drew ?_ | with_reducible refine below_draws _ ?_ | (with_reducible refine Below.setCell ?_ ?_ _; rotate_left; focus (first | with_reducible exact Nat.le_refl _ | (simp; done) | (simp; omega) | (simp at *; omega))) | with_reducible refine ch_trans ?_ (by with_reducible assumption))), Or.inl rfl⟩
  by_cases hb : q - name.size < 0
  · go_wp2
    go_ret
    exact ⟨_, rfl, (by repeat (first | with_reducible exact Below.refl _ _ | with_reducible assumption | with_reducible refine ch_alloc ?_ _ | with_reducible refine Below.drew ?_ | with_reducible refine below_draws _ ?_ | (with_reducible refine Below.setCell ?_ ?_ _; rotate_left; focus (first | with_reducible exact Nat.le_refl _ | (simp; done) | (simp; omega) | (simp at *; omega))) | with_reducible refine ch_trans ?_ (by with_reducible assumption))), Or.inl rfl⟩
  by_cases hd : q - name.size - to.size < 0
  · go_wp2
    go_ret
    exact ⟨_, rfl, (by repeat (first | with_reducible exact Below.refl _ _ | with_reducible assumption | with_reducible refine ch_alloc ?_ _ | with_reducible refine Below.drew ?_ | with_reducible refine below_draws _ ?_ | (with_reducible refine Below.setCell ?_ ?_ _; rotate_left; focus (first | with_reducible exact Nat.le_refl _ | (simp; done) | (simp; omega) | (simp at *; omega))) | with_reducible refine ch_trans ?_ (by with_reducible assumption))), Or.inl rfl⟩
  · go_wp2
    go_ret
    exact ⟨_, rfl, (by repeat (first | with_reducible exact Below.refl _ _ | with_reducible assumption | with_reducible refine ch_alloc ?_ _ | with_reducible refine Below.drew ?_ | with_reducible refine below_draws _ ?_ | (with_reducible refine Below.setCell ?_ ?_ _; rotate_left; focus (first | with_reducible exact Nat.le_refl _ | (simp; done) | (simp; omega) | (simp at *; omega))) | with_reducible refine ch_trans ?_ (by with_reducible assumption))), Or.inr ⟨by omega, by omega, r2, q2⟩⟩

set_option maxRecDepth 100000 in
set_option maxHeartbeats 1000000 in
/-- laws.eqDdl -/
theorem eqDdl_same (x y : Array Value) (t : Dc) (w : World) (hx : DdlV w x t) (hy : DdlV w y t) : Calls Try.prog 54 #[.agg x, .agg y] w fun e w' => e = .returned (.bool true) ∧ Below w.heap.size w w' := by
  obtain ⟨cv, kv, rfl, hc, hk⟩ := hx
  obtain ⟨cv', kv', rfl, hc', hk'⟩ := hy
  obtain ⟨kind, table, cs, ks, name, to⟩ := t
  simp only at hc hk hc' hk'
  have HC : Hid (ColsV w cv cs ∧ ColsV w cv' cs) := ⟨hc, hc'⟩
  have HK : Hid (StrsV w kv ks ∧ StrsV w kv' ks) := ⟨hk, hk'⟩
  clear hc hk hc' hk'
  have HL := Loc.new w #[.int .i64 kind, .string table, cv, kv, .string name, .string to] 60
  have HM := Loc.new (w.alloc (.cells #[.int .i64 kind, .string table, cv, kv, .string name, .string to] 60)) #[.int .i64 kind, .string table, cv', kv', .string name, .string to] 60
  go_enter Try.func54, Try.ntmps54
  go_wp2_with fail
  refine (eqColS_same cv cv' cs _ (HC.out.1.on (by repeat (first | with_reducible exact Below.refl _ _ | with_reducible assumption | with_reducible refine ch_alloc ?_ _ | with_reducible refine Below.drew ?_ | with_reducible refine below_draws _ ?_ | (with_reducible refine Below.setCell ?_ ?_ _; rotate_left; focus (first | with_reducible exact Nat.le_refl _ | (simp; done) | (simp; omega) | (simp at *; omega))) | with_reducible refine ch_trans ?_ (by with_reducible assumption)))) (HC.out.2.on (by repeat (first | with_reducible exact Below.refl _ _ | with_reducible assumption | with_reducible refine ch_alloc ?_ _ | with_reducible refine Below.drew ?_ | with_reducible refine below_draws _ ?_ | (with_reducible refine Below.setCell ?_ ?_ _; rotate_left; focus (first | with_reducible exact Nat.le_refl _ | (simp; done) | (simp; omega) | (simp at *; omega))) | with_reducible refine ch_trans ?_ (by with_reducible assumption))))).mono ?_
  rintro e w1 ⟨rfl, b1⟩
  have HL1 := HL.on (w' := w1) (by repeat (first | with_reducible exact Below.refl _ _ | with_reducible assumption | with_reducible refine ch_alloc ?_ _ | with_reducible refine Below.drew ?_ | with_reducible refine below_draws _ ?_ | (with_reducible refine Below.setCell ?_ ?_ _; rotate_left; focus (first | with_reducible exact Nat.le_refl _ | (simp; done) | (simp; omega) | (simp at *; omega))) | with_reducible refine ch_trans ?_ (by with_reducible assumption)))
  obtain ⟨c0, c1, c2, c3, c4, c5⟩ := HL1.six
  have HM1 := HM.on b1
  rw [show (w.alloc (.cells #[.int .i64 kind, .string table, cv, kv, .string name, .string to] 60)).heap.size = w.heap.size + 1 from by simp] at HM1
  obtain ⟨d0, d1, d2, d3, d4, d5⟩ := HM1.six
  go_wp2_with fail
  refine (eqStringS_same kv kv' ks _ (HK.out.1.on (by repeat (first | with_reducible exact Below.refl _ _ | with_reducible assumption | with_reducible refine ch_alloc ?_ _ | with_reducible refine Below.drew ?_ | with_reducible refine below_draws _ ?_ | (with_reducible refine Below.setCell ?_ ?_ _; rotate_left; focus (first | with_reducible exact Nat.le_refl _ | (simp; done) | (simp; omega) | (simp at *; omega))) | with_reducible refine ch_trans ?_ (by with_reducible assumption)))) (HK.out.2.on (by repeat (first | with_reducible exact Below.refl _ _ | with_reducible assumption | with_reducible refine ch_alloc ?_ _ | with_reducible refine Below.drew ?_ | with_reducible refine below_draws _ ?_ | (with_reducible refine Below.setCell ?_ ?_ _; rotate_left; focus (first | with_reducible exact Nat.le_refl _ | (simp; done) | (simp; omega) | (simp at *; omega))) | with_reducible refine ch_trans ?_ (by with_reducible assumption))))).mono ?_
  rintro e w2 ⟨rfl, b2⟩
  have HL2 := HL1.on (w' := w2) (by repeat (first | with_reducible exact Below.refl _ _ | with_reducible assumption | with_reducible refine ch_alloc ?_ _ | with_reducible refine Below.drew ?_ | with_reducible refine below_draws _ ?_ | (with_reducible refine Below.setCell ?_ ?_ _; rotate_left; focus (first | with_reducible exact Nat.le_refl _ | (simp; done) | (simp; omega) | (simp at *; omega))) | with_reducible refine ch_trans ?_ (by with_reducible assumption)))
  have HM2 := HM1.on b2
  clear c0 c1 c2 c3 c4 c5 d0 d1 d2 d3 d4 d5
  obtain ⟨c0, c1, c2, c3, c4, c5⟩ := HL2.six
  obtain ⟨d0, d1, d2, d3, d4, d5⟩ := HM2.six
  go_wp2
  go_ret
  exact ⟨rfl, (by repeat (first | with_reducible exact Below.refl _ _ | with_reducible assumption | with_reducible refine ch_alloc ?_ _ | with_reducible refine Below.drew ?_ | with_reducible refine below_draws _ ?_ | (with_reducible refine Below.setCell ?_ ?_ _; rotate_left; focus (first | with_reducible exact Nat.le_refl _ | (simp; done) | (simp; omega) | (simp at *; omega))) | with_reducible refine ch_trans ?_ (by with_reducible assumption)))⟩

set_option maxRecDepth 100000 in
set_option maxHeartbeats 1000000 in
/-- laws.toDdl -/
theorem toDdl_any (x : Array Value) (t : Dc) (w : World) (hx : DdlV w x t) (hf : t.few) :
    Calls Try.prog 45 #[.agg x] w fun e w' => ∃ y, e = .returned (.agg y) ∧ Below w.heap.size w w' ∧ DdlV w' y t ∧ TabFrom y w.heap.size := by
  obtain ⟨cv, kv, rfl, hc, hk⟩ := hx
  obtain ⟨kind, table, cs, ks, name, to⟩ := t
  obtain ⟨hfc, hfk⟩ := hf
  simp only at hfc hfk hc hk
  have HC : Hid (ColsV w cv cs) := hc
  have HK : Hid (StrsV w kv ks) := hk
  have HL := Loc.new w #[.int .i64 kind, .string table, cv, kv, .string name, .string to] 49
  clear hc hk
  go_enter Try.func45, Try.ntmps45
  go_wp2_with fail
  refine (toColS_any cv cs _ (HC.out.on (by repeat (first | with_reducible exact Below.refl _ _ | with_reducible assumption | with_reducible refine ch_alloc ?_ _ | with_reducible refine Below.drew ?_ | with_reducible refine below_draws _ ?_ | (with_reducible refine Below.setCell ?_ ?_ _; rotate_left; focus (first | with_reducible exact Nat.le_refl _ | (simp; done) | (simp; omega) | (simp at *; omega))) | with_reducible refine ch_trans ?_ (by with_reducible assumption)))) hfc).mono ?_
  rintro e w1 ⟨cv', rfl, b1, hc1, hf1⟩
  obtain ⟨a1, p1, rfl, hc1⟩ := hc1
  have HC1 : Hid (ColsV w1 (.slice a1 cs.length p1) cs) := ⟨a1, p1, rfl, hc1⟩
  have HF1 : Hid (From (.slice a1 cs.length p1) (w.heap.size + 1 + 1 + 1)) := by show From _ _; simpa using hf1
  clear hc1 hf1
  have HL1 := HL.on (w' := w1) (by repeat (first | with_reducible exact Below.refl _ _ | with_reducible assumption | with_reducible refine ch_alloc ?_ _ | with_reducible refine Below.drew ?_ | with_reducible refine below_draws _ ?_ | (with_reducible refine Below.setCell ?_ ?_ _; rotate_left; focus (first | with_reducible exact Nat.le_refl _ | (simp; done) | (simp; omega) | (simp at *; omega))) | with_reducible refine ch_trans ?_ (by with_reducible assumption)))
  obtain ⟨c0, c1, c2, c3, c4, c5⟩ := HL1.six
  have HO : Own w1 (w.heap.size + 1 + 1) 60 #[.int .i64 kind, .string table, .slice none 0 0, .slice none 0 0, .string { data := #[] }, .string { data := #[] }] := (Own.at ((w.alloc (.cells #[.int .i64 kind, .string table, cv, kv, .string name, .string to] 49)).alloc (.cells #[.int .i64 0, .string { data := #[] }, .slice none 0 0, .slice none 0 0, .string { data := #[] }, .string { data := #[] }] 60)) _ _ (by simp)).on b1
  have HQ : Own w1 (w.heap.size + 1) 60 #[.int .i64 0, .string { data := #[] }, .slice none 0 0, .slice none 0 0, .string { data := #[] }, .string { data := #[] }] := ((Own.at (w.alloc (.cells #[.int .i64 kind, .string table, cv, kv, .string name, .string to] 49)) _ _ (by simp)).on (ch_alloc (Below.refl _ _) _)).on b1
  obtain ⟨d0, d1, d2, d3, d4, d5⟩ := HO.loc.six
  have f2 := HO.frozen 2
  go_wp2_with fail
  refine (toStringS_any kv ks _ (HK.out.on (by repeat (first | with_reducible exact Below.refl _ _ | with_reducible assumption | with_reducible refine ch_alloc ?_ _ | with_reducible refine Below.drew ?_ | with_reducible refine below_draws _ ?_ | (with_reducible refine Below.setCell ?_ ?_ _; rotate_left; focus (first | with_reducible exact Nat.le_refl _ | (simp; done) | (simp; omega) | (simp at *; omega))) | with_reducible refine ch_trans ?_ (by with_reducible assumption)))) hfk).mono ?_
  rintro e w2 ⟨kv', rfl, b2, hk2, hf2⟩
  obtain ⟨a2, p2, rfl, hk2⟩ := hk2
  have HK2 : Hid (StrsV w2 (.slice a2 ks.length p2) ks) := ⟨a2, p2, rfl, hk2⟩
  have HC2 : Hid (ColsV w2 (.slice a1 cs.length p1) cs) := (HC1.out.set HF1.out (p := ⟨w.heap.size + 1 + 1, 2, none⟩) (by simp) _).on b2
  have hsz : w.heap.size + 1 + 1 + 1 ≤ w1.heap.size := by simpa using b1.size
  have HF2 : Hid (From (.slice a2 ks.length p2) (w.heap.size + 1 + 1 + 1)) := hf2.mono (by simpa using hsz)
  clear hk2 hf2
  have HO2 : Own w2 (w.heap.size + 1 + 1) 60 #[.int .i64 kind, .string table, .slice a1 cs.length p1, .slice none 0 0, .string { data := #[] }, .string { data := #[] }] := (HO.set 2 _).on b2
  have HL2 := HL1.on (w' := w1.setCell ⟨w.heap.size + 1 + 1, 2, none⟩ (.slice a1 cs.length p1))
  have HL3 : Loc w2 w.heap.size #[.int .i64 kind, .string table, cv, kv, .string name, .string to] := HL.on (w' := w2) (by
    refine Below.trans ?_ (b2.mono ?_)
    · exact (by repeat (first | with_reducible exact Below.refl _ _ | with_reducible assumption | with_reducible refine ch_alloc ?_ _ | with_reducible refine Below.drew ?_ | with_reducible refine below_draws _ ?_ | (with_reducible refine Below.setCell ?_ ?_ _; rotate_left; focus (first | with_reducible exact Nat.le_refl _ | (simp; done) | (simp; omega) | (simp at *; omega))) | with_reducible refine ch_trans ?_ (by with_reducible assumption)))
    · simp; omega)
  clear HL2
  clear c0 c1 c2 c3 c4 c5 d0 d1 d2 d3 d4 d5 f2
  obtain ⟨c0, c1, c2, c3, c4, c5⟩ := HL3.six
  obtain ⟨d0, d1, d2, d3, d4, d5⟩ := HO2.loc.six
  have f3 := HO2.frozen 3
  have f4 := HO2.frozen 4
  have f5 := HO2.frozen 5
  have HQ2 : Own w2 (w.heap.size + 1) 60 #[.int .i64 0, .string { data := #[] }, .slice none 0 0, .slice none 0 0, .string { data := #[] }, .string { data := #[] }] := (HQ.other (p := ⟨w.heap.size + 1 + 1, 2, none⟩) (by simp) _).on b2
  obtain ⟨g0, g1, g2, g3, g4, g5⟩ := HQ2.loc.six
  have i0 := HQ2.frozen 0
  have i1 := HQ2.frozen 1
  have i2 := HQ2.frozen 2
  have i3 := HQ2.frozen 3
  have i4 := HQ2.frozen 4
  have i5 := HQ2.frozen 5
  go_wp2
  have HQ3 : Own (((((((((w2.setCell ⟨w.heap.size + 1 + 1, 3, none⟩ (.slice a2 ks.length p2)).setCell ⟨w.heap.size + 1 + 1, 4, none⟩ (.string name)).setCell ⟨w.heap.size + 1 + 1, 5, none⟩ (.string to)).setCell ⟨w.heap.size + 1, 0, none⟩ (.int .i64 kind)).setCell ⟨w.heap.size + 1, 1, none⟩ (.string table)).setCell ⟨w.heap.size + 1, 2, none⟩ (.slice a1 cs.length p1)).setCell ⟨w.heap.size + 1, 3, none⟩ (.slice a2 ks.length p2)).setCell ⟨w.heap.size + 1, 4, none⟩ (.string name)).setCell ⟨w.heap.size + 1, 5, none⟩ (.string to)) _ _ #[.int .i64 kind, .string table, .slice a1 cs.length p1, .slice a2 ks.length p2, .string name, .string to] := (((((((((HQ2.other (p := ⟨w.heap.size + 1 + 1, 3, none⟩) (by simp) (.slice a2 ks.length p2)).other (p := ⟨w.heap.size + 1 + 1, 4, none⟩) (by simp) (.string name)).other (p := ⟨w.heap.size + 1 + 1, 5, none⟩) (by simp) (.string to)).set 0 (.int .i64 kind)).set 1 (.string table)).set 2 (.slice a1 cs.length p1)).set 3 (.slice a2 ks.length p2)).set 4 (.string name)).set 5 (.string to))
  have HB : Hid (Below w.heap.size w (((((((((w2.setCell ⟨w.heap.size + 1 + 1, 3, none⟩ (.slice a2 ks.length p2)).setCell ⟨w.heap.size + 1 + 1, 4, none⟩ (.string name)).setCell ⟨w.heap.size + 1 + 1, 5, none⟩ (.string to)).setCell ⟨w.heap.size + 1, 0, none⟩ (.int .i64 kind)).setCell ⟨w.heap.size + 1, 1, none⟩ (.string table)).setCell ⟨w.heap.size + 1, 2, none⟩ (.slice a1 cs.length p1)).setCell ⟨w.heap.size + 1, 3, none⟩ (.slice a2 ks.length p2)).setCell ⟨w.heap.size + 1, 4, none⟩ (.string name)).setCell ⟨w.heap.size + 1, 5, none⟩ (.string to))) := by
    show Below _ _ _
    exact (by repeat (first | with_reducible exact Below.refl _ _ | with_reducible assumption | with_reducible refine ch_alloc ?_ _ | with_reducible refine Below.drew ?_ | with_reducible refine below_draws _ ?_ | (with_reducible refine Below.setCell ?_ ?_ _; rotate_left; focus (first | with_reducible exact Nat.le_refl _ | (simp; done) | (simp; omega) | (simp at *; omega))) | with_reducible refine ch_trans ?_ (by with_reducible assumption)))
  have HC3 : Hid (ColsV (((((((((w2.setCell ⟨w.heap.size + 1 + 1, 3, none⟩ (.slice a2 ks.length p2)).setCell ⟨w.heap.size + 1 + 1, 4, none⟩ (.string name)).setCell ⟨w.heap.size + 1 + 1, 5, none⟩ (.string to)).setCell ⟨w.heap.size + 1, 0, none⟩ (.int .i64 kind)).setCell ⟨w.heap.size + 1, 1, none⟩ (.string table)).setCell ⟨w.heap.size + 1, 2, none⟩ (.slice a1 cs.length p1)).setCell ⟨w.heap.size + 1, 3, none⟩ (.slice a2 ks.length p2)).setCell ⟨w.heap.size + 1, 4, none⟩ (.string name)).setCell ⟨w.heap.size + 1, 5, none⟩ (.string to)) (.slice a1 cs.length p1) cs) := (((((((((HC2.out.set HF1.out (by simp) _).set HF1.out (by simp) _).set HF1.out (by simp) _).set HF1.out (by simp) _).set HF1.out (by simp) _).set HF1.out (by simp) _).set HF1.out (by simp) _).set HF1.out (by simp) _).set HF1.out (by simp) _)
  have HK3 : Hid (StrsV (((((((((w2.setCell ⟨w.heap.size + 1 + 1, 3, none⟩ (.slice a2 ks.length p2)).setCell ⟨w.heap.size + 1 + 1, 4, none⟩ (.string name)).setCell ⟨w.heap.size + 1 + 1, 5, none⟩ (.string to)).setCell ⟨w.heap.size + 1, 0, none⟩ (.int .i64 kind)).setCell ⟨w.heap.size + 1, 1, none⟩ (.string table)).setCell ⟨w.heap.size + 1, 2, none⟩ (.slice a1 cs.length p1)).setCell ⟨w.heap.size + 1, 3, none⟩ (.slice a2 ks.length p2)).setCell ⟨w.heap.size + 1, 4, none⟩ (.string name)).setCell ⟨w.heap.size + 1, 5, none⟩ (.string to)) (.slice a2 ks.length p2) ks) := (((((((((HK2.out.set HF2.out (by simp) _).set HF2.out (by simp) _).set HF2.out (by simp) _).set HF2.out (by simp) _).set HF2.out (by simp) _).set HF2.out (by simp) _).set HF2.out (by simp) _).set HF2.out (by simp) _).set HF2.out (by simp) _)
  generalize (((((((((w2.setCell ⟨w.heap.size + 1 + 1, 3, none⟩ (.slice a2 ks.length p2)).setCell ⟨w.heap.size + 1 + 1, 4, none⟩ (.string name)).setCell ⟨w.heap.size + 1 + 1, 5, none⟩ (.string to)).setCell ⟨w.heap.size + 1, 0, none⟩ (.int .i64 kind)).setCell ⟨w.heap.size + 1, 1, none⟩ (.string table)).setCell ⟨w.heap.size + 1, 2, none⟩ (.slice a1 cs.length p1)).setCell ⟨w.heap.size + 1, 3, none⟩ (.slice a2 ks.length p2)).setCell ⟨w.heap.size + 1, 4, none⟩ (.string name)).setCell ⟨w.heap.size + 1, 5, none⟩ (.string to)) = W at HQ3 HB HC3 HK3 ⊢
  obtain ⟨e0, e1, e2, e3, e4, e5⟩ := HQ3.loc.six
  exact bodyPost_ret (v := .agg #[.int .i64 kind, .string table, .slice a1 cs.length p1, .slice a2 ks.length p2, .string name, .string to]) (by simp [results, Try.results45, go_sem, e0, e1, e2, e3, e4, e5]) rfl ⟨_, rfl, HB.out, ⟨_, _, rfl, HC3.out, HK3.out⟩, fun v hv => by
    simp at hv
    rcases hv with rfl | rfl | rfl | rfl | rfl | rfl
    · intro a n c e; cases e
    · intro a n c e; cases e
    · exact HF1.out.mono (by omega)
    · exact HF2.out.mono (by omega)
    · intro a n c e; cases e
    · intro a n c e; cases e⟩
end Go.Proofs.Ytikccmgpmbnkfaa
