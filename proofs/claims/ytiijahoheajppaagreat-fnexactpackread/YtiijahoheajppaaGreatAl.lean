/- Changes in memory: the laws' size, copy and look. What hangs on blocks from a number on alone. Rows copied: given and landed. append to a row of the call's own: where it lies afterwards; rows shortened in place. -/
import Derived.Test.YtiijahoheajppaaGreatTab
import Derived.Test.YtiijahoheajppaaGreatCt
namespace Go.Proofs.YtiijahoheajppaaGreat
open Go.ChangeShapes Go.WideShapes Go.ChangeAt Go.RowKit

/-- What a change holds. -/
structure Dc where
  kind : Int
  table : ByteArray
  cols : List Cl
  keys : List ByteArray
  name : ByteArray
  to : ByteArray
def Dc.fit (d : Dc) : Prop := d.table.size ≤ maxLen ∧ (∀ c ∈ d.cols, c.name.size ≤ maxLen ∧ c.ds.size ≤ maxLen) ∧ (∀ s ∈ d.keys, s.size ≤ maxLen) ∧ d.name.size ≤ maxLen ∧ d.to.size ≤ maxLen
def Dc.few (d : Dc) : Prop := d.cols.length ≤ 1048576 ∧ d.keys.length ≤ 1048576
/-- A change's cells. -/
def DdlV (w : World) (x : Array Value) (d : Dc) : Prop := ∃ cv kv, x = #[.int .i64 d.kind, .string d.table, cv, kv, .string d.name, .string d.to] ∧ ColsV w cv d.cols ∧ StrsV w kv d.keys
theorem DdlV.on {w w' : World} {x : Array Value} {d : Dc} (h : DdlV w x d) (b : Below w.heap.size w w') : DdlV w' x d := by
  obtain ⟨cv, kv, e, h1, h2⟩ := h; exact ⟨cv, kv, e, h1.on b, h2.on b⟩
theorem DdlV.lit {w : World} {x : Array Value} {t : Dc} (h : DdlV w x t) : ∃ a p b q, x = #[.int .i64 t.kind, .string t.table, .slice a t.cols.length p, .slice b t.keys.length q, .string t.name, .string t.to] ∧ DdlV w #[.int .i64 t.kind, .string t.table, .slice a t.cols.length p, .slice b t.keys.length q, .string t.name, .string t.to] t ∧ ColsV w (.slice a t.cols.length p) t.cols ∧ StrsV w (.slice b t.keys.length q) t.keys := by
  obtain ⟨cv, kv, rfl, hc, hk⟩ := h
  obtain ⟨a, p, rfl, hc'⟩ := id hc
  obtain ⟨b, q, rfl, hk'⟩ := id hk
  exact ⟨a, p, b, q, rfl, ⟨_, _, rfl, hc, hk⟩, hc, hk⟩

set_option maxRecDepth 100000 in
set_option maxHeartbeats 1000000 in
/-- laws.szDdl -/
theorem szDdl_any (x : Array Value) (t : Dc) (l : Int) (w : World) (hx : DdlV w x t) (hf : t.fit) (h0 : 0 ≤ l) (h1 : l ≤ 1048576) :
    Calls Tryz.prog 126 #[.agg x, .int .i64 l] w fun e w' => ∃ r : Int, e = .returned (.int .i64 r) ∧ Below w.heap.size w w' ∧ (r = -1 ∨ (0 ≤ r ∧ r ≤ l ∧ t.few)) := by
  obtain ⟨cv, kv, rfl, hc, hk⟩ := hx
  obtain ⟨kind, table, cs, ks, name, to⟩ := t
  obtain ⟨hn, hfc, hfk, hnn, hnt⟩ := hf
  simp only at hn hfc hfk hnn hnt hc hk
  unfold maxLen at hn hnn hnt
  by_cases ha : l - table.size < 0
  · clear hc hk hfc hfk
    go_enter Tryz.func126, Tryz.ntmps126
    go_wp2
    go_ret
    exact ⟨_, rfl, (by repeat (first | with_reducible exact Below.refl _ _ | with_reducible assumption | with_reducible refine ch_alloc ?_ _ | with_reducible refine Below.drew ?_ | with_reducible refine below_draws _ ?_ | (with_reducible refine Below.setCell ?_ ?_ _; rotate_left; focus (first | with_reducible exact Nat.le_refl _ | (simp; done) | (simp; omega) | (simp at *; omega))) | with_reducible refine ch_trans ?_ (by with_reducible assumption))), Or.inl rfl⟩
  have HC : Hid (ColsV w cv cs) := hc
  have HK : Hid (StrsV w kv ks) := hk
  have HS : Hid (∀ u : World, ColsV u cv cs → Calls Tryz.prog 145 #[cv, .int .i64 (l - table.size)] u fun e w' => ∃ r : Int, e = .returned (.int .i64 r) ∧ Below u.heap.size u w' ∧ (r = -1 ∨ (0 ≤ r ∧ r ≤ l - table.size ∧ cs.length ≤ 1048576))) := fun u hu => szColS_any cv cs _ u hu hfc (by omega) (by omega)
  have HT : Hid (∀ (r : Int) (u : World), StrsV u kv ks → 0 ≤ r → r ≤ 1048576 → Calls Tryz.prog 97 #[kv, .int .i64 r] u fun e w' => ∃ q : Int, e = .returned (.int .i64 q) ∧ Below u.heap.size u w' ∧ (q = -1 ∨ (0 ≤ q ∧ q ≤ r ∧ ks.length ≤ 1048576))) := fun r u hu g0 g1 => szStringS_any kv ks r u hu hfk g0 g1
  have HL := Loc.new w #[.int .i64 kind, .string table, cv, kv, .string name, .string to] 103
  clear hc hk hfc hfk
  go_enter Tryz.func126, Tryz.ntmps126
  go_wp2_with fail
  refine (HS.out _ (HC.out.on (by repeat (first | with_reducible exact Below.refl _ _ | with_reducible assumption | with_reducible refine ch_alloc ?_ _ | with_reducible refine Below.drew ?_ | with_reducible refine below_draws _ ?_ | (with_reducible refine Below.setCell ?_ ?_ _; rotate_left; focus (first | with_reducible exact Nat.le_refl _ | (simp; done) | (simp; omega) | (simp at *; omega))) | with_reducible refine ch_trans ?_ (by with_reducible assumption))))).mono ?_
  rintro e w1 ⟨r, rfl, b1, hr⟩
  have HL1 := HL.on b1
  obtain ⟨c0, c1, c2, c3, c4, c5⟩ := HL1.six
  rcases hr with rfl | ⟨r0, r1, r2⟩
  · go_wp2
    go_ret
    exact ⟨_, rfl, (by repeat (first | with_reducible exact Below.refl _ _ | with_reducible assumption | with_reducible refine ch_alloc ?_ _ | with_reducible refine Below.drew ?_ | with_reducible refine below_draws _ ?_ | (with_reducible refine Below.setCell ?_ ?_ _; rotate_left; focus (first | with_reducible exact Nat.le_refl _ | (simp; done) | (simp; omega) | (simp at *; omega))) | with_reducible refine ch_trans ?_ (by with_reducible assumption))), Or.inl rfl⟩
  have HK1 : Hid (StrsV w1 kv ks) := HK.out.on (by repeat (first | with_reducible exact Below.refl _ _ | with_reducible assumption | with_reducible refine ch_alloc ?_ _ | with_reducible refine Below.drew ?_ | with_reducible refine below_draws _ ?_ | (with_reducible refine Below.setCell ?_ ?_ _; rotate_left; focus (first | with_reducible exact Nat.le_refl _ | (simp; done) | (simp; omega) | (simp at *; omega))) | with_reducible refine ch_trans ?_ (by with_reducible assumption)))
  go_wp2_with fail
  refine (HT.out r _ HK1.out r0 (by omega)).mono ?_
  rintro e w2 ⟨q, rfl, b2, hq⟩
  have HL2 := HL1.on b2
  clear c0 c1 c2 c3 c4 c5
  obtain ⟨c0, c1, c2, c3, c4, c5⟩ := HL2.six
  rcases hq with rfl | ⟨q0, q1, q2⟩
  · go_wp2
    go_ret
    exact ⟨_, rfl, (by repeat (first | with_reducible exact Below.refl _ _ | with_reducible assumption | with_reducible refine ch_alloc ?_ _ | with_reducible refine Below.drew ?_ | with_reducible refine below_draws _ ?_ | (with_reducible refine Below.setCell ?_ ?_ _; rotate_left; focus (first | with_reducible exact Nat.le_refl _ | (simp; done) | (simp; omega) | (simp at *; omega))) | with_reducible refine ch_trans ?_ (by with_reducible assumption))), Or.inl rfl⟩
  by_cases hb : q - name.size < 0
  · go_wp2
    go_ret
    exact ⟨_, rfl, (by repeat (first | with_reducible exact Below.refl _ _ | with_reducible assumption | with_reducible refine ch_alloc ?_ _ | with_reducible refine Below.drew ?_ | with_reducible refine below_draws _ ?_ | (with_reducible refine Below.setCell ?_ ?_ _; rotate_left; focus (first | with_reducible exact Nat.le_refl _ | (simp; done) | (simp; omega) | (simp at *; omega))) | with_reducible refine ch_trans ?_ (by with_reducible assumption))), Or.inl rfl⟩
  by_cases hd : q - name.size - to.size < 0
  · go_wp2
    go_ret
    exact ⟨_, rfl, (by repeat (first | with_reducible exact Below.refl _ _ | with_reducible assumption | with_reducible refine ch_alloc ?_ _ | with_reducible refine Below.drew ?_ | with_reducible refine below_draws _ ?_ | (with_reducible refine Below.setCell ?_ ?_ _; rotate_left; focus (first | with_reducible exact Nat.le_refl _ | (simp; done) | (simp; omega) | (simp at *; omega))) | with_reducible refine ch_trans ?_ (by with_reducible assumption))), Or.inl rfl⟩
  · go_wp2
    go_ret
    exact ⟨_, rfl, (by repeat (first | with_reducible exact Below.refl _ _ | with_reducible assumption | with_reducible refine ch_alloc ?_ _ | with_reducible refine Below.drew ?_ | with_reducible refine below_draws _ ?_ | (with_reducible refine Below.setCell ?_ ?_ _; rotate_left; focus (first | with_reducible exact Nat.le_refl _ | (simp; done) | (simp; omega) | (simp at *; omega))) | with_reducible refine ch_trans ?_ (by with_reducible assumption))), Or.inr ⟨by omega, by omega, r2, q2⟩⟩

set_option maxRecDepth 100000 in
set_option maxHeartbeats 1000000 in
/-- laws.eqDdl -/
theorem eqDdl_same (x y : Array Value) (t : Dc) (w : World) (hx : DdlV w x t) (hy : DdlV w y t) : Calls Tryz.prog 48 #[.agg x, .agg y] w fun e w' => e = .returned (.bool true) ∧ Below w.heap.size w w' := by
  obtain ⟨cv, kv, rfl, hc, hk⟩ := hx
  obtain ⟨cv', kv', rfl, hc', hk'⟩ := hy
  obtain ⟨kind, table, cs, ks, name, to⟩ := t
  simp only at hc hk hc' hk'
  have HC : Hid (ColsV w cv cs ∧ ColsV w cv' cs) := ⟨hc, hc'⟩
  have HK : Hid (StrsV w kv ks ∧ StrsV w kv' ks) := ⟨hk, hk'⟩
  clear hc hk hc' hk'
  have HL := Loc.new w #[.int .i64 kind, .string table, cv, kv, .string name, .string to] 46
  have HM := Loc.new (w.alloc (.cells #[.int .i64 kind, .string table, cv, kv, .string name, .string to] 46)) #[.int .i64 kind, .string table, cv', kv', .string name, .string to] 46
  go_enter Tryz.func48, Tryz.ntmps48
  go_wp2_with fail
  refine (eqColS_same cv cv' cs _ (HC.out.1.on (by repeat (first | with_reducible exact Below.refl _ _ | with_reducible assumption | with_reducible refine ch_alloc ?_ _ | with_reducible refine Below.drew ?_ | with_reducible refine below_draws _ ?_ | (with_reducible refine Below.setCell ?_ ?_ _; rotate_left; focus (first | with_reducible exact Nat.le_refl _ | (simp; done) | (simp; omega) | (simp at *; omega))) | with_reducible refine ch_trans ?_ (by with_reducible assumption)))) (HC.out.2.on (by repeat (first | with_reducible exact Below.refl _ _ | with_reducible assumption | with_reducible refine ch_alloc ?_ _ | with_reducible refine Below.drew ?_ | with_reducible refine below_draws _ ?_ | (with_reducible refine Below.setCell ?_ ?_ _; rotate_left; focus (first | with_reducible exact Nat.le_refl _ | (simp; done) | (simp; omega) | (simp at *; omega))) | with_reducible refine ch_trans ?_ (by with_reducible assumption))))).mono ?_
  rintro e w1 ⟨rfl, b1⟩
  have HL1 := HL.on (w' := w1) (by repeat (first | with_reducible exact Below.refl _ _ | with_reducible assumption | with_reducible refine ch_alloc ?_ _ | with_reducible refine Below.drew ?_ | with_reducible refine below_draws _ ?_ | (with_reducible refine Below.setCell ?_ ?_ _; rotate_left; focus (first | with_reducible exact Nat.le_refl _ | (simp; done) | (simp; omega) | (simp at *; omega))) | with_reducible refine ch_trans ?_ (by with_reducible assumption)))
  obtain ⟨c0, c1, c2, c3, c4, c5⟩ := HL1.six
  have HM1 := HM.on b1
  rw [show (w.alloc (.cells #[.int .i64 kind, .string table, cv, kv, .string name, .string to] 46)).heap.size = w.heap.size + 1 from by simp] at HM1
  obtain ⟨d0, d1, d2, d3, d4, d5⟩ := HM1.six
  go_wp2_with fail
  refine (eqStringS_same kv kv' ks _ (HK.out.1.on (by repeat (first | with_reducible exact Below.refl _ _ | with_reducible assumption | with_reducible refine ch_alloc ?_ _ | with_reducible refine Below.drew ?_ | with_reducible refine below_draws _ ?_ | (with_reducible refine Below.setCell ?_ ?_ _; rotate_left; focus (first | with_reducible exact Nat.le_refl _ | (simp; done) | (simp; omega) | (simp at *; omega))) | with_reducible refine ch_trans ?_ (by with_reducible assumption)))) (HK.out.2.on (by repeat (first | with_reducible exact Below.refl _ _ | with_reducible assumption | with_reducible refine ch_alloc ?_ _ | with_reducible refine Below.drew ?_ | with_reducible refine below_draws _ ?_ | (with_reducible refine Below.setCell ?_ ?_ _; rotate_left; focus (first | with_reducible exact Nat.le_refl _ | (simp; done) | (simp; omega) | (simp at *; omega))) | with_reducible refine ch_trans ?_ (by with_reducible assumption))))).mono ?_
  rintro e w2 ⟨rfl, b2⟩
  have HL2 := HL1.on (w' := w2) (by repeat (first | with_reducible exact Below.refl _ _ | with_reducible assumption | with_reducible refine ch_alloc ?_ _ | with_reducible refine Below.drew ?_ | with_reducible refine below_draws _ ?_ | (with_reducible refine Below.setCell ?_ ?_ _; rotate_left; focus (first | with_reducible exact Nat.le_refl _ | (simp; done) | (simp; omega) | (simp at *; omega))) | with_reducible refine ch_trans ?_ (by with_reducible assumption)))
  have HM2 := HM1.on b2
  clear c0 c1 c2 c3 c4 c5 d0 d1 d2 d3 d4 d5
  obtain ⟨c0, c1, c2, c3, c4, c5⟩ := HL2.six
  obtain ⟨d0, d1, d2, d3, d4, d5⟩ := HM2.six
  go_wp2
  go_ret
  exact ⟨rfl, (by repeat (first | with_reducible exact Below.refl _ _ | with_reducible assumption | with_reducible refine ch_alloc ?_ _ | with_reducible refine Below.drew ?_ | with_reducible refine below_draws _ ?_ | (with_reducible refine Below.setCell ?_ ?_ _; rotate_left; focus (first | with_reducible exact Nat.le_refl _ | (simp; done) | (simp; omega) | (simp at *; omega))) | with_reducible refine ch_trans ?_ (by with_reducible assumption)))⟩

set_option maxRecDepth 100000 in
set_option maxHeartbeats 1000000 in
/-- laws.toDdl -/
theorem toDdl_any (x : Array Value) (t : Dc) (w : World) (hx : DdlV w x t) (hf : t.few) :
    Calls Tryz.prog 132 #[.agg x] w fun e w' => ∃ y, e = .returned (.agg y) ∧ Below w.heap.size w w' ∧ DdlV w' y t ∧ TabFrom y w.heap.size := by
  obtain ⟨cv, kv, rfl, hc, hk⟩ := hx
  obtain ⟨kind, table, cs, ks, name, to⟩ := t
  obtain ⟨hfc, hfk⟩ := hf
  simp only at hfc hfk hc hk
  have HC : Hid (ColsV w cv cs) := hc
  have HK : Hid (StrsV w kv ks) := hk
  have HL := Loc.new w #[.int .i64 kind, .string table, cv, kv, .string name, .string to] 103
  clear hc hk
  go_enter Tryz.func132, Tryz.ntmps132
  go_wp2_with fail
  refine (toColS_any cv cs _ (HC.out.on (by repeat (first | with_reducible exact Below.refl _ _ | with_reducible assumption | with_reducible refine ch_alloc ?_ _ | with_reducible refine Below.drew ?_ | with_reducible refine below_draws _ ?_ | (with_reducible refine Below.setCell ?_ ?_ _; rotate_left; focus (first | with_reducible exact Nat.le_refl _ | (simp; done) | (simp; omega) | (simp at *; omega))) | with_reducible refine ch_trans ?_ (by with_reducible assumption)))) hfc).mono ?_
  rintro e w1 ⟨cv', rfl, b1, hc1, hf1⟩
  obtain ⟨a1, p1, rfl, hc1⟩ := hc1
  have HC1 : Hid (ColsV w1 (.slice a1 cs.length p1) cs) := ⟨a1, p1, rfl, hc1⟩
  have HF1 : Hid (From (.slice a1 cs.length p1) (w.heap.size + 1 + 1 + 1)) := by show From _ _; simpa using hf1
  clear hc1 hf1
  have HL1 := HL.on (w' := w1) (by repeat (first | with_reducible exact Below.refl _ _ | with_reducible assumption | with_reducible refine ch_alloc ?_ _ | with_reducible refine Below.drew ?_ | with_reducible refine below_draws _ ?_ | (with_reducible refine Below.setCell ?_ ?_ _; rotate_left; focus (first | with_reducible exact Nat.le_refl _ | (simp; done) | (simp; omega) | (simp at *; omega))) | with_reducible refine ch_trans ?_ (by with_reducible assumption)))
  obtain ⟨c0, c1, c2, c3, c4, c5⟩ := HL1.six
  have HO : Own w1 (w.heap.size + 1 + 1) 46 #[.int .i64 kind, .string table, .slice none 0 0, .slice none 0 0, .string { data := #[] }, .string { data := #[] }] := (Own.at ((w.alloc (.cells #[.int .i64 kind, .string table, cv, kv, .string name, .string to] 103)).alloc (.cells #[.int .i64 0, .string { data := #[] }, .slice none 0 0, .slice none 0 0, .string { data := #[] }, .string { data := #[] }] 46)) _ _ (by simp)).on b1
  have HQ : Own w1 (w.heap.size + 1) 46 #[.int .i64 0, .string { data := #[] }, .slice none 0 0, .slice none 0 0, .string { data := #[] }, .string { data := #[] }] := ((Own.at (w.alloc (.cells #[.int .i64 kind, .string table, cv, kv, .string name, .string to] 103)) _ _ (by simp)).on (ch_alloc (Below.refl _ _) _)).on b1
  obtain ⟨d0, d1, d2, d3, d4, d5⟩ := HO.loc.six
  have f2 := HO.frozen 2
  go_wp2_with fail
  refine (toStringS_any kv ks _ (HK.out.on (by repeat (first | with_reducible exact Below.refl _ _ | with_reducible assumption | with_reducible refine ch_alloc ?_ _ | with_reducible refine Below.drew ?_ | with_reducible refine below_draws _ ?_ | (with_reducible refine Below.setCell ?_ ?_ _; rotate_left; focus (first | with_reducible exact Nat.le_refl _ | (simp; done) | (simp; omega) | (simp at *; omega))) | with_reducible refine ch_trans ?_ (by with_reducible assumption)))) hfk).mono ?_
  rintro e w2 ⟨kv', rfl, b2, hk2, hf2⟩
  obtain ⟨a2, p2, rfl, hk2⟩ := hk2
  have HK2 : Hid (StrsV w2 (.slice a2 ks.length p2) ks) := ⟨a2, p2, rfl, hk2⟩
  have HC2 : Hid (ColsV w2 (.slice a1 cs.length p1) cs) := (HC1.out.set HF1.out (p := ⟨w.heap.size + 1 + 1, 2, none⟩) (by simp) _).on b2
  have hsz : w.heap.size + 1 + 1 + 1 ≤ w1.heap.size := by simpa using b1.size
  have HF2 : Hid (From (.slice a2 ks.length p2) (w.heap.size + 1 + 1 + 1)) := hf2.mono (by simpa using hsz)
  clear hk2 hf2
  have HO2 : Own w2 (w.heap.size + 1 + 1) 46 #[.int .i64 kind, .string table, .slice a1 cs.length p1, .slice none 0 0, .string { data := #[] }, .string { data := #[] }] := (HO.set 2 _).on b2
  have HL2 := HL1.on (w' := w1.setCell ⟨w.heap.size + 1 + 1, 2, none⟩ (.slice a1 cs.length p1))
  have HL3 : Loc w2 w.heap.size #[.int .i64 kind, .string table, cv, kv, .string name, .string to] := HL.on (w' := w2) (by
    refine Below.trans ?_ (b2.mono ?_)
    · exact (by repeat (first | with_reducible exact Below.refl _ _ | with_reducible assumption | with_reducible refine ch_alloc ?_ _ | with_reducible refine Below.drew ?_ | with_reducible refine below_draws _ ?_ | (with_reducible refine Below.setCell ?_ ?_ _; rotate_left; focus (first | with_reducible exact Nat.le_refl _ | (simp; done) | (simp; omega) | (simp at *; omega))) | with_reducible refine ch_trans ?_ (by with_reducible assumption)))
    · simp; omega)
  clear HL2
  clear c0 c1 c2 c3 c4 c5 d0 d1 d2 d3 d4 d5 f2
  obtain ⟨c0, c1, c2, c3, c4, c5⟩ := HL3.six
  obtain ⟨d0, d1, d2, d3, d4, d5⟩ := HO2.loc.six
  have f3 := HO2.frozen 3
  have f4 := HO2.frozen 4
  have f5 := HO2.frozen 5
  have HQ2 : Own w2 (w.heap.size + 1) 46 #[.int .i64 0, .string { data := #[] }, .slice none 0 0, .slice none 0 0, .string { data := #[] }, .string { data := #[] }] := (HQ.other (p := ⟨w.heap.size + 1 + 1, 2, none⟩) (by simp) _).on b2
  obtain ⟨g0, g1, g2, g3, g4, g5⟩ := HQ2.loc.six
  have i0 := HQ2.frozen 0
  have i1 := HQ2.frozen 1
  have i2 := HQ2.frozen 2
  have i3 := HQ2.frozen 3
  have i4 := HQ2.frozen 4
  have i5 := HQ2.frozen 5
  go_wp2
  have HQ3 : Own (((((((((w2.setCell ⟨w.heap.size + 1 + 1, 3, none⟩ (.slice a2 ks.length p2)).setCell ⟨w.heap.size + 1 + 1, 4, none⟩ (.string name)).setCell ⟨w.heap.size + 1 + 1, 5, none⟩ (.string to)).setCell ⟨w.heap.size + 1, 0, none⟩ (.int .i64 kind)).setCell ⟨w.heap.size + 1, 1, none⟩ (.string table)).setCell ⟨w.heap.size + 1, 2, none⟩ (.slice a1 cs.length p1)).setCell ⟨w.heap.size + 1, 3, none⟩ (.slice a2 ks.length p2)).setCell ⟨w.heap.size + 1, 4, none⟩ (.string name)).setCell ⟨w.heap.size + 1, 5, none⟩ (.string to)) _ _ #[.int .i64 kind, .string table, .slice a1 cs.length p1, .slice a2 ks.length p2, .string name, .string to] := (((((((((HQ2.other (p := ⟨w.heap.size + 1 + 1, 3, none⟩) (by simp) (.slice a2 ks.length p2)).other (p := ⟨w.heap.size + 1 + 1, 4, none⟩) (by simp) (.string name)).other (p := ⟨w.heap.size + 1 + 1, 5, none⟩) (by simp) (.string to)).set 0 (.int .i64 kind)).set 1 (.string table)).set 2 (.slice a1 cs.length p1)).set 3 (.slice a2 ks.length p2)).set 4 (.string name)).set 5 (.string to))
  have HB : Hid (Below w.heap.size w (((((((((w2.setCell ⟨w.heap.size + 1 + 1, 3, none⟩ (.slice a2 ks.length p2)).setCell ⟨w.heap.size + 1 + 1, 4, none⟩ (.string name)).setCell ⟨w.heap.size + 1 + 1, 5, none⟩ (.string to)).setCell ⟨w.heap.size + 1, 0, none⟩ (.int .i64 kind)).setCell ⟨w.heap.size + 1, 1, none⟩ (.string table)).setCell ⟨w.heap.size + 1, 2, none⟩ (.slice a1 cs.length p1)).setCell ⟨w.heap.size + 1, 3, none⟩ (.slice a2 ks.length p2)).setCell ⟨w.heap.size + 1, 4, none⟩ (.string name)).setCell ⟨w.heap.size + 1, 5, none⟩ (.string to))) := by
    show Below _ _ _
    exact (by repeat (first | with_reducible exact Below.refl _ _ | with_reducible assumption | with_reducible refine ch_alloc ?_ _ | with_reducible refine Below.drew ?_ | with_reducible refine below_draws _ ?_ | (with_reducible refine Below.setCell ?_ ?_ _; rotate_left; focus (first | with_reducible exact Nat.le_refl _ | (simp; done) | (simp; omega) | (simp at *; omega))) | with_reducible refine ch_trans ?_ (by with_reducible assumption)))
  have HC3 : Hid (ColsV (((((((((w2.setCell ⟨w.heap.size + 1 + 1, 3, none⟩ (.slice a2 ks.length p2)).setCell ⟨w.heap.size + 1 + 1, 4, none⟩ (.string name)).setCell ⟨w.heap.size + 1 + 1, 5, none⟩ (.string to)).setCell ⟨w.heap.size + 1, 0, none⟩ (.int .i64 kind)).setCell ⟨w.heap.size + 1, 1, none⟩ (.string table)).setCell ⟨w.heap.size + 1, 2, none⟩ (.slice a1 cs.length p1)).setCell ⟨w.heap.size + 1, 3, none⟩ (.slice a2 ks.length p2)).setCell ⟨w.heap.size + 1, 4, none⟩ (.string name)).setCell ⟨w.heap.size + 1, 5, none⟩ (.string to)) (.slice a1 cs.length p1) cs) := (((((((((HC2.out.set HF1.out (by simp) _).set HF1.out (by simp) _).set HF1.out (by simp) _).set HF1.out (by simp) _).set HF1.out (by simp) _).set HF1.out (by simp) _).set HF1.out (by simp) _).set HF1.out (by simp) _).set HF1.out (by simp) _)
  have HK3 : Hid (StrsV (((((((((w2.setCell ⟨w.heap.size + 1 + 1, 3, none⟩ (.slice a2 ks.length p2)).setCell ⟨w.heap.size + 1 + 1, 4, none⟩ (.string name)).setCell ⟨w.heap.size + 1 + 1, 5, none⟩ (.string to)).setCell ⟨w.heap.size + 1, 0, none⟩ (.int .i64 kind)).setCell ⟨w.heap.size + 1, 1, none⟩ (.string table)).setCell ⟨w.heap.size + 1, 2, none⟩ (.slice a1 cs.length p1)).setCell ⟨w.heap.size + 1, 3, none⟩ (.slice a2 ks.length p2)).setCell ⟨w.heap.size + 1, 4, none⟩ (.string name)).setCell ⟨w.heap.size + 1, 5, none⟩ (.string to)) (.slice a2 ks.length p2) ks) := (((((((((HK2.out.set HF2.out (by simp) _).set HF2.out (by simp) _).set HF2.out (by simp) _).set HF2.out (by simp) _).set HF2.out (by simp) _).set HF2.out (by simp) _).set HF2.out (by simp) _).set HF2.out (by simp) _).set HF2.out (by simp) _)
  generalize (((((((((w2.setCell ⟨w.heap.size + 1 + 1, 3, none⟩ (.slice a2 ks.length p2)).setCell ⟨w.heap.size + 1 + 1, 4, none⟩ (.string name)).setCell ⟨w.heap.size + 1 + 1, 5, none⟩ (.string to)).setCell ⟨w.heap.size + 1, 0, none⟩ (.int .i64 kind)).setCell ⟨w.heap.size + 1, 1, none⟩ (.string table)).setCell ⟨w.heap.size + 1, 2, none⟩ (.slice a1 cs.length p1)).setCell ⟨w.heap.size + 1, 3, none⟩ (.slice a2 ks.length p2)).setCell ⟨w.heap.size + 1, 4, none⟩ (.string name)).setCell ⟨w.heap.size + 1, 5, none⟩ (.string to)) = W at HQ3 HB HC3 HK3 ⊢
  obtain ⟨e0, e1, e2, e3, e4, e5⟩ := HQ3.loc.six
  exact bodyPost_ret (v := .agg #[.int .i64 kind, .string table, .slice a1 cs.length p1, .slice a2 ks.length p2, .string name, .string to]) (by simp [results, Tryz.results132, go_sem, e0, e1, e2, e3, e4, e5]) rfl ⟨_, rfl, HB.out, ⟨_, _, rfl, HC3.out, HK3.out⟩, fun v hv => by
    simp at hv
    rcases hv with rfl | rfl | rfl | rfl | rfl | rfl
    · intro a n c e; cases e
    · intro a n c e; cases e
    · exact HF1.out.mono (by omega)
    · exact HF2.out.mono (by omega)
    · intro a n c e; cases e
    · intro a n c e; cases e⟩
end Go.Proofs.YtiijahoheajppaaGreat

namespace Go.Proofs.YtiijahoheajppaaGreat
open Go.ChangeShapes Go.WideShapes Go.ChangeAt Go.RowKit

/-- The blocks from B on are as they were. -/
def Apart (B : Nat) (w w' : World) : Prop := w.heap.size ≤ w'.heap.size ∧ ∀ b, B ≤ b → b < w.heap.size → w'.heap[b]? = w.heap[b]?
theorem Apart.refl (B : Nat) (w : World) : Apart B w w := ⟨Nat.le_refl _, fun _ _ _ => rfl⟩
theorem Apart.trans {B : Nat} {a b c : World} (h : Apart B a b) (k : Apart B b c) : Apart B a c :=
  ⟨Nat.le_trans h.1 k.1, fun n h1 h2 => (k.2 n h1 (Nat.lt_of_lt_of_le h2 h.1)).trans (h.2 n h1 h2)⟩
theorem Apart.mono {B B' : Nat} {a b : World} (h : Apart B a b) (hB : B ≤ B') : Apart B' a b := ⟨h.1, fun n h1 h2 => h.2 n (Nat.le_trans hB h1) h2⟩
theorem Apart.of_below {B : Nat} {w w' : World} (h : Below w.heap.size w w') : Apart B w w' := ⟨h.size, fun b _ h2 => h.block b h2⟩
theorem Apart.set {B : Nat} {w w' : World} (h : Apart B w w') {p : Addr} (hp : p.block < B) (u : Value) : Apart B w (w'.setCell p u) :=
  ⟨by simpa using h.1, fun b h1 h2 => (Below.heap_setCell _ _ _ _ (by omega)).trans (h.2 b h1 h2)⟩
theorem Apart.cell {B : Nat} {w w' : World} (h : Apart B w w') {p : Addr} {v : Value} (hp : B ≤ p.block) (hc : w.cell? p = some v) : w'.cell? p = some v := by
  have hb := h.2 p.block hp (cell_lt hc)
  unfold World.cell? at hc ⊢
  rw [hb]; exact hc
/-- It holds, and hangs on those blocks alone. -/
def Firm (B : Nat) (R : World → Prop) (w : World) : Prop := ∀ w', Apart B w w' → R w'
theorem Firm.out {B : Nat} {R : World → Prop} {w : World} (h : Firm B R w) : R w := h w (Apart.refl _ _)
theorem Firm.at {B : Nat} {R : World → Prop} {w w' : World} (h : Firm B R w) (k : Apart B w w') : Firm B R w' := fun u hu => h u (k.trans hu)
theorem Firm.on {B : Nat} {R : World → Prop} {w w' : World} (h : Firm B R w) (k : Below w.heap.size w w') : Firm B R w' := h.at (Apart.of_below k)
theorem Firm.set {B : Nat} {R : World → Prop} {w : World} (h : Firm B R w) {p : Addr} (hp : p.block < B) (u : Value) : Firm B R (w.setCell p u) := h.at ((Apart.refl _ _).set hp u)
theorem Firm.mono {B B' : Nat} {R : World → Prop} {w : World} (h : Firm B R w) (hB : B' ≤ B) : Firm B' R w := fun u hu => h u (hu.mono hB)
theorem Firm.imp {B : Nat} {R S : World → Prop} {w : World} (h : Firm B R w) (k : ∀ u, R u → S u) : Firm B S w := fun u hu => k u (h u hu)
theorem Firm.and {B : Nat} {R S : World → Prop} {w : World} (h : Firm B R w) (k : Firm B S w) : Firm B (fun u => R u ∧ S u) w := fun u hu => ⟨h u hu, k u hu⟩
theorem Firm.stores {B : Nat} {R : World → Prop} {b : Nat} (hb : b < B) : ∀ (us : List Value) (w : World) (o : Nat), Firm B R w → Firm B R (stores w b o us)
  | [], _, _, h => h
  | u :: r, _, o, h => Firm.stores hb r _ (o + 1) (h.set hb u)

theorem RowAt.firm {w : World} {a : Option Addr} {z : Nat} {xs : List (Array Value)} (h : RowAt w a z xs) {B : Nat} (hf : ∀ q, a = some q → B ≤ q.block) : Firm B (fun u => RowAt u a z xs) w := by
  intro u hu
  obtain ⟨hz, h⟩ := h
  refine ⟨hz, ?_⟩
  rcases h with h | ⟨b, off, ha, h⟩
  · exact Or.inl h
  · refine Or.inr ⟨b, off, ha, fun i hi j hj => ?_⟩
    have h0 := h i hi j hj
    rw [Array.getElem?_eq_getElem (by rw [hz _ (List.getElem_mem hi)]; exact hj)] at h0 ⊢
    exact hu.cell (p := ⟨b, off + i * z + j, none⟩) (hf ⟨b, off, none⟩ ha) h0
theorem From.at {a : Option Addr} {n c B : Nat} (h : From (.slice a n c) B) : ∀ q, a = some q → B ≤ q.block := fun q e => h q n c (by rw [e])
theorem ValsV.firm {w : World} {v : Value} {vs : List Vc} (h : ValsV w v vs) {B : Nat} (hf : From v B) : Firm B (fun u => ValsV u v vs) w := by
  obtain ⟨a, cap, rfl, h1, h2, h3⟩ := h
  exact (h3.firm hf.at).imp fun u hu => ⟨a, cap, rfl, h1, h2, hu⟩
theorem ColsV.firm {w : World} {v : Value} {vs : List Cl} (h : ColsV w v vs) {B : Nat} (hf : From v B) : Firm B (fun u => ColsV u v vs) w := by
  obtain ⟨a, cap, rfl, h1, h2, h3⟩ := h
  exact (h3.firm hf.at).imp fun u hu => ⟨a, cap, rfl, h1, h2, hu⟩
theorem StrsV.firm {w : World} {v : Value} {vs : List ByteArray} (h : StrsV w v vs) {B : Nat} (hf : From v B) : Firm B (fun u => StrsV u v vs) w := by
  obtain ⟨a, cap, rfl, h1, h2, h3⟩ := h
  exact (h3.firm hf.at).imp fun u hu => ⟨a, cap, rfl, h1, h2, hu⟩
theorem TabV.firm {w : World} {x : Array Value} {t : Tc} (h : TabV w x t) {B : Nat} (hf : TabFrom x B) : Firm B (fun u => TabV u x t) w := by
  obtain ⟨cv, kv, rfl, h1, h2⟩ := h
  exact ((h1.firm (hf cv (by simp))).and (h2.firm (hf kv (by simp)))).imp fun u hu => ⟨cv, kv, rfl, hu.1, hu.2⟩
theorem DdlV.firm {w : World} {x : Array Value} {t : Dc} (h : DdlV w x t) {B : Nat} (hf : TabFrom x B) : Firm B (fun u => DdlV u x t) w := by
  obtain ⟨cv, kv, rfl, h1, h2⟩ := h
  exact ((h1.firm (hf cv (by simp))).and (h2.firm (hf kv (by simp)))).imp fun u hu => ⟨cv, kv, rfl, hu.1, hu.2⟩
theorem TabsN.firm {w : World} {v : Value} {ts : List Tc} {B : Nat} (h : TabsN w v ts B) : Firm B (fun u => TabsV u v ts) w := by
  obtain ⟨⟨a, cap, xs, rfl, h1, h2, h3, h4, h5⟩, hf, hg⟩ := h
  intro u hu
  refine ⟨a, cap, xs, rfl, h1, h2, h3.firm hf.at u hu, h4, fun i hi g => ?_⟩
  refine (h5 i hi g).firm (fun y hy => ?_) u hu
  rcases h3.2 with h0 | ⟨b, off, ha, h⟩
  · subst h0; simp at hi
  · obtain ⟨j, hj, rfl⟩ := List.getElem_of_mem hy
    have hj' : j < xs[i].size := by simpa using hj
    have hz := h3.1 _ (List.getElem_mem hi)
    have e := h i hi j (by omega)
    rw [Array.getElem?_eq_getElem hj'] at e
    have := hg ⟨b, off, none⟩ ts.length cap (by rw [ha]) i g j (by omega) _ e
    simpa using this
theorem Fill.firm {w : World} {b : Nat} {T : TypeId} {z n : Nat} {xs : List (Array Value)} (h : Fill w b T z n xs) {B : Nat} (hB : B ≤ b) : Firm B (fun u => Fill u b T z n xs) w := by
  intro u hu
  obtain ⟨h0, h1, f, hr, hf⟩ := h
  exact ⟨h0, h1, f, hr.of_block (hu.2 b hB hr.lt), hf⟩
theorem Rfill.firm {w : World} {B : Nat} {T : TypeId} {rs : List (List Vc)} (h : Rfill w B T rs rs.length) (hm : rs.length ≤ maxLen) : Firm B (fun u => RowsV u (.slice (some ⟨B, 0, none⟩) rs.length rs.length) rs) w := by
  obtain ⟨ys, h1, h2, h3⟩ := h
  intro u hu
  exact ⟨_, _, ys, rfl, Nat.le_refl _, hm, (h1.firm (Nat.le_refl _) u hu).row, h2, fun i h g => ((h3 i h g).1.firm ((h3 i h g).2.mono (by omega))) u hu⟩
end Go.Proofs.YtiijahoheajppaaGreat

namespace Go.Proofs.YtiijahoheajppaaGreat
open Go.ChangeShapes Go.WideShapes Go.ChangeAt Go.RowKit

/-- A row of the call's own lies in a block of its elements' type. -/
theorem Got.tag {w : World} {B : Nat} {T : TypeId} {z : Nat} {v : Value} {xs : List (Array Value)} (h : Got w B T z v xs) {c : Nat} (hc : v.ownBlock = some c) : ∃ cur, w.heap[c]? = some (.cells cur T (0, 0)) := by
  rcases h.2.2 with ⟨rfl, _⟩ | ⟨g, cap, cur, rfl, _, hg, _⟩
  · cases hc
  · simp [Value.ownBlock] at hc; subst hc; exact ⟨cur, hg⟩
theorem Got.apart {w : World} {B B' : Nat} {T T' : TypeId} {z z' : Nat} {v v' : Value} {xs xs' : List (Array Value)} (h : Got w B T z v xs) (h' : Got w B' T' z' v' xs') (hT : T ≠ T') {c : Nat} (hc : v.ownBlock = some c) : v'.ownBlock ≠ some c := fun hc' => by
  obtain ⟨_, e⟩ := h.tag hc
  obtain ⟨_, e'⟩ := h'.tag hc'
  rw [e] at e'
  cases e'
  exact hT rfl
theorem Got.turned {w w' : World} {B : Nat} {T : TypeId} {z : Nat} {v : Value} {xs : List (Array Value)} (h : Got w B T z v xs) {S : Nat → Prop} (k : Turns S w w') (hS : ∀ c, v.ownBlock = some c → ¬ S c) : Got w' B T z v xs := by
  refine ⟨h.1, h.2.1, ?_⟩
  rcases h.2.2 with hn | ⟨g, cap, cur, rfl, hb, hg, rest⟩
  · exact Or.inl hn
  · exact Or.inr ⟨g, cap, cur, rfl, hb, (k.block g (Array.getElem?_eq_some_iff.1 hg).1 (hS g rfl)).trans hg, rest⟩

/-- Rows of a call's own, each with a block of its own. -/
def RowsY (w : World) (B : Nat) (v : Value) (rs : List (List Vc)) (ys : List Value) (bs : List Nat) : Prop := Got w B 42 1 v (ys.map one1) ∧ ys.length = rs.length ∧ bs.length = rs.length ∧ bs.Nodup ∧
  ∀ i (h : i < rs.length) (hy : i < ys.length) (hb : i < bs.length), Got w B 128 3 ys[i] (rs[i].map Vc.cells) ∧ ∃ cap, ys[i] = .slice (some ⟨bs[i], 0, none⟩) rs[i].length cap
def RowsG (w : World) (B : Nat) (v : Value) (rs : List (List Vc)) : Prop := ∃ (ys : List Value) (bs : List Nat), RowsY w B v rs ys bs
theorem RowsG.on {w w' : World} {B : Nat} {v : Value} {rs : List (List Vc)} (h : RowsG w B v rs) (k : Below w.heap.size w w') : RowsG w' B v rs := by
  obtain ⟨ys, bs, h1, h2, h3, h4, h5⟩ := h
  exact ⟨ys, bs, h1.on k, h2, h3, h4, fun i h hy hb => ⟨(h5 i h hy hb).1.on k, (h5 i h hy hb).2⟩⟩
theorem RowsG.mono {w : World} {B B' : Nat} {v : Value} {rs : List (List Vc)} (h : RowsG w B v rs) (hB : B' ≤ B) : RowsG w B' v rs := by
  obtain ⟨ys, bs, h1, h2, h3, h4, h5⟩ := h
  exact ⟨ys, bs, h1.mono hB, h2, h3, h4, fun i h hy hb => ⟨(h5 i h hy hb).1.mono hB, (h5 i h hy hb).2⟩⟩
theorem RowsG.nil (w : World) (B : Nat) : RowsG w B (.slice none 0 0) [] := ⟨[], [], Got.nil _ _ _ _, rfl, rfl, List.nodup_nil, fun i h => by simp at h⟩
theorem RowsG.emptyAt (w : World) {n : Nat} (h : w.heap.size = n) : RowsG (w.alloc (.cells #[] 42)) n (.slice (some ⟨n, 0, none⟩) 0 0) [] := ⟨[], [], Got.emptyAt _ _ _ h, rfl, rfl, List.nodup_nil, fun i h => by simp at h⟩
theorem RowsG.turned {w w' : World} {B : Nat} {v : Value} {rs : List (List Vc)} (h : RowsG w B v rs) {S : Nat → Prop} (k : Turns S w w') (hS : ∀ c, S c → c < B) : RowsG w' B v rs := by
  obtain ⟨ys, bs, h1, h2, h3, h4, h5⟩ := h
  exact ⟨ys, bs, h1.turns k hS, h2, h3, h4, fun i h hy hb => ⟨(h5 i h hy hb).1.turns k hS, (h5 i h hy hb).2⟩⟩
theorem RowsG.lit {w : World} {B : Nat} {v : Value} {rs : List (List Vc)} (h : RowsG w B v rs) : ∃ a n cap, v = .slice a n cap ∧ RowsG w B (.slice a n cap) rs := by
  obtain ⟨ys, bs, h1, h2⟩ := h
  obtain ⟨a, n, cap, rfl, h1⟩ := h1.lit2
  exact ⟨a, n, cap, rfl, ys, bs, h1, h2⟩
theorem RowsG.rows {w : World} {B : Nat} {v : Value} {rs : List (List Vc)} (h : RowsG w B v rs) : RowsV w v rs := by
  obtain ⟨ys, bs, h1, h2, h3, h4, h5⟩ := h
  obtain ⟨a, cap, e, h6, h7, h8, _⟩ := h1.row
  simp only [List.length_map] at e h6
  exact ⟨a, cap, ys, by rw [e, h2], by omega, h7, h8, h2, fun i hi g => (h5 i g hi (by omega)).1.vals⟩
/-- One more row. -/
theorem RowsY.step {w0 w1 w2 : World} {B : Nat} {v v' : Value} {rs : List (List Vc)} {ys : List Value} {bs : List Nat} {r : List Vc} {kv : Value} (h : RowsY w0 B v rs ys bs) (hb : Below w0.heap.size w0 w1) (hB : B ≤ w0.heap.size) (hk : Got w1 w0.heap.size 128 3 kv (r.map Vc.cells)) (hr : 1 ≤ r.length)
    (hv : Got w2 B 42 1 v' (ys.map one1 ++ [one1 kv])) (ht : Turns (fun c => v.ownBlock = some c) w1 w2) : RowsG w2 B v' (rs ++ [r]) := by
  obtain ⟨h1, h2, h3, h4, h5⟩ := h
  have hkb : ∃ b cap, kv = .slice (some ⟨b, 0, none⟩) r.length cap ∧ w0.heap.size ≤ b := by
    rcases hk.2.2 with ⟨_, hn⟩ | ⟨g, cap, cur, e, hg, _⟩
    · simp at hn; subst hn; simp at hr
    · exact ⟨g, cap, by simpa using e, hg⟩
  obtain ⟨b, cap, rfl, hb0⟩ := hkb
  have hT : (42 : TypeId) ≠ 128 := by decide
  have hout := h1.on hb
  refine ⟨ys ++ [.slice (some ⟨b, 0, none⟩) r.length cap], bs ++ [b], by rw [List.map_append]; exact hv, by simp [h2], by simp [h3], ?_, fun i hi hy hb' => ?_⟩
  · rw [List.nodup_append]
    refine ⟨h4, by simp, fun c hc d hd => ?_⟩
    simp at hd
    subst hd
    obtain ⟨i, hi, rfl⟩ := List.getElem_of_mem hc
    obtain ⟨hg, cap', e⟩ := h5 i (by omega) (by omega) hi
    have := (World.ownsRow.lt hg.2 bs[i] (by rw [e]; rfl)).2
    omega
  · by_cases hlt : i < rs.length
    · obtain ⟨hg, cap', e⟩ := h5 i hlt (by omega) (by omega)
      rw [List.getElem_append_left (by omega), List.getElem_append_left (by omega), List.getElem_append_left (by omega)]
      exact ⟨(hg.on hb).turned ht fun c hc => (hg.on hb).apart hout (Ne.symm hT) hc, cap', e⟩
    · simp at hi
      have e : i = rs.length := by omega
      subst e
      have e1 : (ys ++ [Value.slice (some ⟨b, 0, none⟩) r.length cap])[rs.length] = .slice (some ⟨b, 0, none⟩) r.length cap := by
        rw [List.getElem_append_right (by omega)]; simp [h2]
      have e2 : (bs ++ [b])[rs.length] = b := by rw [List.getElem_append_right (by omega)]; simp [h3]
      have e3 : (rs ++ [r])[rs.length] = r := by rw [List.getElem_append_right (by omega)]; simp
      rw [e1, e2, e3]
      exact ⟨(hk.mono hB).turned ht fun c hc => (hk.mono hB).apart hout (Ne.symm hT) hc, cap, rfl⟩
end Go.Proofs.YtiijahoheajppaaGreat

namespace Go.Proofs.YtiijahoheajppaaGreat
open Go.ChangeShapes Go.WideShapes Go.ChangeAt Go.RowKit

/-- It lies where v lay, or in a block that was not there. -/
def Lies (w : World) (v v' : Value) : Prop := ∀ c, v'.ownBlock = some c → v.ownBlock = some c ∨ w.heap.size ≤ c
section
variable {P : Program} {w : World} {t T : TypeId} {zv : Value} {z bytes : Nat}
theorem app_keep (ht : P.underlying t = some (.slice T)) (hinfo : (P.info? T).map (fun i => (i.zero, i.size, i.bytes)) = some (some zv, z, bytes)) (hzs : zv.cells.size = z) (hsz : 0 < z) (hby : bytes ≤ 1000)
    {B : Nat} {v : Value} {xs : List (Array Value)} (hown : Got w B T z v xs) {b off c : Nat} {ys : List (Array Value)} (hy : RowAt w (some ⟨b, off, none⟩) z ys) (h1 : ∀ x ∈ ys, ∀ u ∈ x.toList, u.oneCell' = true) (hlen : xs.length + ys.length < 1000000000) (hB : B ≤ w.heap.size) (ty : TypeId) :
    ∃ v' w', (Builtin.append_ #[t, t] ty #[v, .slice (some ⟨b, off, none⟩) ys.length c]).run P w = .ok v' w' ∧ Got w' B T z v' (xs ++ ys) ∧ Below B w w' ∧ Turns (fun c => v.ownBlock = some c) w w' ∧ Lies w v v' := by
  obtain ⟨v', w', hr, h2, h3, h4⟩ := app_all ht hinfo hzs hsz hby hown hy h1 hlen hB (c := c) ty
  refine ⟨v', w', hr, h2, h3, h4, ?_⟩
  rcases hown.2.2 with ⟨rfl, hn⟩ | ⟨g, cap, cur, rfl, hb, hg, hc1, hc2, hs, htk⟩
  · obtain rfl := List.length_eq_zero_iff.1 hn
    obtain ⟨v2, w2, hr2, h22, _⟩ := app_all ht hinfo hzs hsz hby (Got.nil w w.heap.size T z) hy h1 hlen (Nat.le_refl _) (c := c) ty
    rw [hr] at hr2
    cases hr2
    exact fun k hk => Or.inr (h22.own hk)
  · obtain ⟨i, hi, hzz⟩ := Option.map_eq_some_iff.1 hinfo
    simp only [Prod.mk.injEq] at hzz
    obtain ⟨hz0, hz1, hz2⟩ := hzz
    have hl : (ys.flatMap Array.toList).length = ys.length * i.size := by rw [hz1]; exact flat_len ys hy.1
    have h1' : ∀ u ∈ ys.flatMap Array.toList, u.oneCell' = true := fun u hu => by
      obtain ⟨x, hx, hu⟩ := List.mem_flatMap.1 hu
      exact h1 x hx u hu
    by_cases hroom : xs.length + ys.length ≤ cap
    · have hfit : xs.length * i.size + (ys.flatMap Array.toList).length ≤ cur.size := by
        rw [hl, hz1, hs, ← Nat.add_mul]; exact Nat.mul_le_mul_right _ hroom
      have hr2 := Go.run_append_room (P := P) w t ty T i ht hi g xs.length cap cur hg ⟨b, off, none⟩ ys.length c _ hl (hy.news hsz) h1' hroom hfit
      rw [hr] at hr2
      cases hr2
      exact fun k hk => Or.inl (by simpa [Value.ownBlock] using hk)
    · have holds : ∀ j u, (xs.flatMap Array.toList)[j]? = some u → w.cell? ((⟨g, 0, none⟩ : Addr).add j) = some u := hown.2.cells (g := g) rfl
      have hr2 := Go.run_append_grow (P := P) w t ty T i zv ht hi hz0 ⟨g, 0, none⟩ xs.length cap (xs.flatMap Array.toList) (by rw [hz1]; exact flat_len xs hown.1) holds ⟨b, off, none⟩ ys.length c _ hl (hy.news hsz) (by omega) (by omega) (growslice_fits_wide (by omega) (by
        have : ((xs.length + ys.length) + (xs.length + ys.length) / 4 + 192) * i.bytes ≤ 2000000000 * 1000 := Nat.mul_le_mul (by omega) (by omega)
        omega))
      rw [hr] at hr2
      cases hr2
      exact fun k hk => Or.inr (by simp [Value.ownBlock] at hk; omega)
theorem app_stepK {ops : Array Oper} {o : Oper} {a : Act} {Q : Exit → Act → World → Prop} {K : Act → World → Prop} {E : Prop} (hgd : o.guard = none) (s y : Operand) (ho : o.op = .call { callee := .builtin .append, args := #[s, y], argTypes := #[t, t] })
    (ht : P.underlying t = some (.slice T)) (hinfo : (P.info? T).map (fun i => (i.zero, i.size, i.bytes)) = some (some zv, z, bytes)) (hzs : zv.cells.size = z) (hsz : 0 < z) (hby : bytes ≤ 1000)
    (B : Nat) (v : Value) (xs : List (Array Value)) (hs : a.eval s = v) (hown : Got w B T z v xs) (b m : Nat) (x : Array Value) (hy : a.eval y = .slice (some ⟨b, 0, none⟩) 1 m) (hx : Loc w b x) (hxz : x.size = z) (h1 : ∀ u ∈ x.toList, u.oneCell' = true) (hlen : xs.length < 900000000) (hB : B ≤ w.heap.size)
    (h : ∀ v' w', Got w' B T z v' (xs ++ [x]) → Below B w w' → Turns (fun c => v.ownBlock = some c) w w' → Lies w v v' → K (a.put o.dst v') w') : if Region.wanted o (yielded ops a.tmps) = true then Oper.wp P o a w K Q else E := by
  have hw : Region.wanted o (yielded ops a.tmps) = true := by simp [Region.wanted, hgd]
  rw [if_pos hw]
  obtain ⟨v', w', hr, h2, h3, h4, h5⟩ := app_keep ht hinfo hzs hsz hby hown (hx.row1 hxz) (fun q hq u hu => by simp at hq; subst hq; exact h1 u hu) (by simp; omega) hB (c := m) o.type
  unfold Oper.wp execOp
  simp only [List.length_cons, List.length_nil, Nat.zero_add] at hr
  simp only [ho, resolve, invoke, builtin, Sem.run_bind, Sem.run_pure, Result.andThen_ok, List.map_toArray, List.map_cons, List.map_nil, hs, hy, hr]
  exact h v' w' h2 h3 h4 h5
theorem app_turnK {ops : Array Oper} {rest : List Oper} {o : Oper} {a : Act} {Q : Exit → Act → World → Prop} (hgd : o.guard = none) (s y : Operand) (ho : o.op = .call { callee := .builtin .append, args := #[s, y], argTypes := #[t, t] })
    (ht : P.underlying t = some (.slice T)) (hinfo : (P.info? T).map (fun i => (i.zero, i.size, i.bytes)) = some (some zv, z, bytes)) (hzs : zv.cells.size = z) (hsz : 0 < z) (hby : bytes ≤ 1000)
    (B : Nat) (v : Value) (xs : List (Array Value)) (hs : a.eval s = v) (hown : Got w B T z v xs) (b m : Nat) (x : Array Value) (hy : a.eval y = .slice (some ⟨b, 0, none⟩) 1 m) (hx : Loc w b x) (hxz : x.size = z) (h1 : ∀ u ∈ x.toList, u.oneCell' = true) (hlen : xs.length < 900000000) (hB : B ≤ w.heap.size)
    (h : ∀ v' w', Got w' B T z v' (xs ++ [x]) → Below B w w' → Turns (fun c => v.ownBlock = some c) w w' → Lies w v v' → wpList P ops Q rest (a.put o.dst v') w') : wpList P ops Q (o :: rest) a w := by
  obtain ⟨v', w', hr, h2, h3, h4, h5⟩ := app_keep ht hinfo hzs hsz hby hown (hx.row1 hxz) (fun q hq u hu => by simp at hq; subst hq; exact h1 u hu) (by simp; omega) hB (c := m) o.type
  refine wpList_plain hgd fun _ hK => ?_
  unfold Oper.wp execOp
  simp only [List.length_cons, List.length_nil, Nat.zero_add] at hr
  simp only [ho, resolve, invoke, builtin, Sem.run_bind, Sem.run_pure, Result.andThen_ok, List.map_toArray, List.map_cons, List.map_nil, hs, hy, hr]
  exact hK _ _ (h v' w' h2 h3 h4 h5)
end
/-- One cell of a row of the call's own laid anew. -/
theorem Got.poke {w : World} {B : Nat} {T : TypeId} {z : Nat} {a : Option Addr} {n cap : Nat} {xs : List (Array Value)} (h : Got w B T z (.slice a n cap) xs) (i j : Nat) (hi : i < xs.length) (hj : j < z) (u : Value) :
    ∃ g, a = some ⟨g, 0, none⟩ ∧ B ≤ g ∧ w.cell? ⟨g, i * z + j, none⟩ = xs[i][j]? ∧ w.frozen? ⟨g, i * z + j, none⟩ = false ∧ Got (w.setCell ⟨g, i * z + j, none⟩ u) B T z (.slice a n cap) (xs.set i (xs[i].setIfInBounds j u)) := by
  obtain ⟨hz, hlen, hh⟩ := h
  rcases hh with ⟨e, hn⟩ | ⟨g, cap', cur, e, hb, hg, hc1, hc2, hs, htk⟩
  · omega
  cases e
  have hlt : i * z + j < xs.length * z := by
    have : (i + 1) * z ≤ xs.length * z := Nat.mul_le_mul_right _ (by omega)
    rw [Nat.add_mul, Nat.one_mul] at this
    omega
  have hle : xs.length * z ≤ cur.size := by rw [hs]; exact Nat.mul_le_mul_right _ hc1
  have ho : Own w g T cur := hg
  have hc : w.cell? ⟨g, i * z + j, none⟩ = xs[i][j]? := by
    have h1 := ho.loc (i * z + j) (by omega)
    rw [h1, ← flat_at xs hz i hi j hj, ← htk, List.getElem?_take, if_pos hlt]
    simp
  refine ⟨g, rfl, hb, hc, ho.frozen _, ?_, ?_, Or.inr ⟨g, cap, cur.setIfInBounds (i * z + j) u, by simp, hb, ho.set _ u, by simpa using hc1, hc2, by simpa using hs, ?_⟩⟩
  · intro x hx
    rcases List.mem_or_eq_of_mem_set hx with hx | hx
    · exact hz x hx
    · subst hx; simpa using hz _ (List.getElem_mem hi)
  · rw [flat_len (z := z) _ (fun x hx => by
      rcases List.mem_or_eq_of_mem_set hx with hx | hx
      · exact hz x hx
      · subst hx; simpa using hz _ (List.getElem_mem hi))]
  · have hz' : ∀ x ∈ xs.set i (xs[i].setIfInBounds j u), x.size = z := fun x hx => by
      rcases List.mem_or_eq_of_mem_set hx with hx | hx
      · exact hz x hx
      · subst hx; simpa using hz _ (List.getElem_mem hi)
    have hz0 : 0 < z := by omega
    apply List.ext_getElem?
    intro p
    rw [List.length_set]
    by_cases hp : p < xs.length * z
    · have hpi : p / z < xs.length := Nat.div_lt_of_lt_mul (by rwa [Nat.mul_comm])
      have hpr : p % z < z := Nat.mod_lt _ hz0
      have hd : p / z * z + p % z = p := by rw [Nat.mul_comm]; exact Nat.div_add_mod p z
      have e1 := flat_at _ hz' (p / z) (by simpa using hpi) (p % z) hpr
      have e2 := flat_at xs hz (p / z) hpi (p % z) hpr
      rw [hd] at e1 e2
      rw [← htk, List.getElem?_take, if_pos hp] at e2
      rw [e1, List.getElem?_take, if_pos hp, Array.getElem?_toList, Array.getElem?_setIfInBounds]
      rw [Array.getElem?_toList] at e2
      by_cases hpq : i * z + j = p
      · have hi' : p / z = i := by rw [← hpq, Nat.mul_comm, Nat.mul_add_div hz0, Nat.div_eq_of_lt hj, Nat.add_zero]
        have hj' : p % z = j := by rw [← hpq, Nat.mul_comm, Nat.mul_add_mod, Nat.mod_eq_of_lt hj]
        rw [if_pos hpq, if_pos (by omega)]
        simp only [hi', hj', List.getElem_set_self]
        have := hz _ (List.getElem_mem hi)
        simp [this, hj]
      · rw [if_neg hpq, e2]
        by_cases hi' : p / z = i
        · have hj' : p % z ≠ j := fun e => hpq (by rw [← hi', ← e]; exact hd)
          simp only [hi', List.getElem_set_self]
          rw [Array.getElem?_setIfInBounds, if_neg (fun e => hj' e.symm)]
        · simp only [List.getElem_set_ne (fun e => hi' e.symm)]
    · rw [List.getElem?_eq_none (by simp; omega), List.getElem?_eq_none (by rw [flat_len _ hz']; simp; omega)]
theorem Own.at0 {w : World} {b : Nat} {T : TypeId} {pc : Array Value} {v : Value} (h : Own w b T pc) (hv : pc[0]? = some v) : w.cell? ⟨b, 0, none⟩ = some v := by
  obtain ⟨h0, e⟩ := Array.getElem?_eq_some_iff.1 hv
  rw [h.loc 0 h0, e]
end Go.Proofs.YtiijahoheajppaaGreat
