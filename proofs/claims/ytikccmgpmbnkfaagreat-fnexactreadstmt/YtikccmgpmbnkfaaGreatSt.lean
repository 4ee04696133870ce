/- Statements in memory: the laws' size, copy and look. -/
import Derived.Test.YtikccmgpmbnkfaaGreatFm
import Derived.Test.YtikccmgpmbnkfaaGreatWq
namespace Go.Proofs.YtikccmgpmbnkfaaGreat
open Go.ChangeShapes Go.WideShapes Go.ChangeAt Go.RowKit

/-- What a statement holds. -/
structure Sc where
  kind : Int
  table : ByteArray
  key : List Vc
  row : List Vc
  ddl : Dc
def Sc.fit (s : Sc) : Prop := s.table.size ≤ maxLen ∧ vfit s.key ∧ vfit s.row ∧ s.ddl.fit
def Sc.few (s : Sc) : Prop := s.key.length ≤ 1048576 ∧ s.row.length ≤ 1048576 ∧ s.ddl.few
/-- A statement's cells. -/
abbrev Sc.cells (s : Sc) (k r c o : Value) : Array Value := #[.int .i64 s.kind, .string s.table, k, r, .int .i64 s.ddl.kind, .string s.ddl.table, c, o, .string s.ddl.name, .string s.ddl.to]
def StmtV (w : World) (x : Array Value) (s : Sc) : Prop := ∃ k r c o, x = s.cells k r c o ∧ ValsV w k s.key ∧ ValsV w r s.row ∧ ColsV w c s.ddl.cols ∧ StrsV w o s.ddl.keys
theorem StmtV.on {w w' : World} {x : Array Value} {s : Sc} (h : StmtV w x s) (b : Below w.heap.size w w') : StmtV w' x s := by
  obtain ⟨k, r, c, o, e, h1, h2, h3, h4⟩ := h; exact ⟨k, r, c, o, e, h1.on b, h2.on b, h3.on b, h4.on b⟩
theorem StmtV.lit {w : World} {x : Array Value} {s : Sc} (h : StmtV w x s) : ∃ a p b q c r d t, x = s.cells (.slice a s.key.length p) (.slice b s.row.length q) (.slice c s.ddl.cols.length r) (.slice d s.ddl.keys.length t) ∧
    ValsV w (.slice a s.key.length p) s.key ∧ ValsV w (.slice b s.row.length q) s.row ∧ ColsV w (.slice c s.ddl.cols.length r) s.ddl.cols ∧ StrsV w (.slice d s.ddl.keys.length t) s.ddl.keys := by
  obtain ⟨k, r, c, o, rfl, h1, h2, h3, h4⟩ := h
  obtain ⟨a, p, rfl, _⟩ := h1.lit
  obtain ⟨b, q, rfl, _⟩ := h2.lit
  obtain ⟨c, r, rfl, h3'⟩ := id h3
  obtain ⟨d, t, rfl, h4'⟩ := id h4
  exact ⟨a, p, b, q, c, r, d, t, rfl, h1, h2, h3, h4⟩
theorem StmtV.mk {w : World} {s : Sc} {k r c o : Value} (h1 : ValsV w k s.key) (h2 : ValsV w r s.row) (h3 : ColsV w c s.ddl.cols) (h4 : StrsV w o s.ddl.keys) : StmtV w (s.cells k r c o) s := ⟨k, r, c, o, rfl, h1, h2, h3, h4⟩
theorem StmtV.ddl {w : World} {s : Sc} {c o : Value} (h3 : ColsV w c s.ddl.cols) (h4 : StrsV w o s.ddl.keys) : DdlV w #[.int .i64 s.ddl.kind, .string s.ddl.table, c, o, .string s.ddl.name, .string s.ddl.to] s.ddl := ⟨c, o, rfl, h3, h4⟩
theorem Loc.ten {w : World} {b : Nat} {a0 a1 a2 a3 a4 a5 a6 a7 a8 a9 : Value} (h : Loc w b #[a0, a1, a2, a3, a4, a5, a6, a7, a8, a9]) : w.cell? ⟨b, 0, none⟩ = some a0 ∧ w.cell? ⟨b, 1, none⟩ = some a1 ∧ w.cell? ⟨b, 2, none⟩ = some a2 ∧ w.cell? ⟨b, 3, none⟩ = some a3 ∧ w.cell? ⟨b, 4, none⟩ = some a4 ∧ w.cell? ⟨b, 5, none⟩ = some a5 ∧ w.cell? ⟨b, 6, none⟩ = some a6 ∧ w.cell? ⟨b, 7, none⟩ = some a7 ∧ w.cell? ⟨b, 8, none⟩ = some a8 ∧ w.cell? ⟨b, 9, none⟩ = some a9 :=
  ⟨h 0 (by simp), h 1 (by simp), h 2 (by simp), h 3 (by simp), h 4 (by simp), h 5 (by simp), h 6 (by simp), h 7 (by simp), h 8 (by simp), h 9 (by simp)⟩

theorem Loc.other {w : World} {b : Nat} {cells : Array Value} (h : Loc w b cells) {p : Addr} (hp : b ≠ p.block) (v : Value) : Loc (w.setCell p v) b cells := fun j hj => by
  have h1 := h j hj
  unfold World.cell? at h1 ⊢
  rw [Below.heap_setCell _ _ _ _ hp]; exact h1
set_option maxRecDepth 100000 in
set_option maxHeartbeats 1000000 in
/-- laws.szStmt -/
theorem szStmt_any (x : Array Value) (t : Sc) (l : Int) (w : World) (hx : StmtV w x t) (hf : t.fit) (h0 : 0 ≤ l) (h1 : l ≤ 1048576) :
    Calls Tryz.prog 96 #[.agg x, .int .i64 l] w fun e w' => ∃ r : Int, e = .returned (.int .i64 r) ∧ Below w.heap.size w w' ∧ (r = -1 ∨ (0 ≤ r ∧ r ≤ l ∧ t.few)) := by
  obtain ⟨ka, kp, ra, rp, ca, cp, oa, op, rfl, hk, hr, hc, ho⟩ := hx.lit
  obtain ⟨hn, hfk, hfr, hfd⟩ := hf
  unfold maxLen at hn
  obtain ⟨kind, table, key, row, ⟨dk, dt, cs, ks, dn, to⟩⟩ := t
  simp only [Sc.cells] at *
  have HK : Hid (ValsV w (.slice ka key.length kp) key ∧ vfit key) := ⟨hk, hfk⟩
  have HR : Hid (ValsV w (.slice ra row.length rp) row ∧ vfit row) := ⟨hr, hfr⟩
  have HD : Hid (∀ u : World, Below w.heap.size w u → DdlV u #[.int .i64 dk, .string dt, .slice ca cs.length cp, .slice oa ks.length op, .string dn, .string to] ⟨dk, dt, cs, ks, dn, to⟩) := fun u hu => ⟨_, _, rfl, hc.on hu, ho.on hu⟩
  have HF : Hid (Dc.fit ⟨dk, dt, cs, ks, dn, to⟩) := hfd
  clear hk hr hc ho hfk hfr hfd hx
  by_cases ha : l - table.size < 0
  · go_enter Tryz.func96, Tryz.ntmps96
    go_wp2
    go_ret
    exact ⟨_, rfl, (by repeat (first | with_reducible exact Below.refl _ _ | with_reducible assumption | with_reducible refine ch_alloc ?_ _ | with_reducible refine Below.drew ?_ | with_reducible refine below_draws _ ?_ | (with_reducible refine Below.setCell ?_ ?_ _; rotate_left; focus (first | with_reducible exact Nat.le_refl _ | (simp; done) | (simp; omega) | (simp at *; omega))) | with_reducible refine ch_trans ?_ (by with_reducible assumption))), Or.inl rfl⟩
  have HL := Loc.new w #[.int .i64 kind, .string table, .slice ka key.length kp, .slice ra row.length rp, .int .i64 dk, .string dt, .slice ca cs.length cp, .slice oa ks.length op, .string dn, .string to] 105
  have hbv : Below w.heap.size w (w.alloc (.cells #[.int .i64 kind, .string table, .slice ka key.length kp, .slice ra row.length rp, .int .i64 dk, .string dt, .slice ca cs.length cp, .slice oa ks.length op, .string dn, .string to] 105)) := (by repeat (first | with_reducible exact Below.refl _ _ | with_reducible assumption | with_reducible refine ch_alloc ?_ _ | with_reducible refine Below.drew ?_ | with_reducible refine below_draws _ ?_ | (with_reducible refine Below.setCell ?_ ?_ _; rotate_left; focus (first | with_reducible exact Nat.le_refl _ | (simp; done) | (simp; omega) | (simp at *; omega))) | with_reducible refine ch_trans ?_ (by with_reducible assumption)))
  go_enter Tryz.func96, Tryz.ntmps96
  go_wp2_with fail
  refine (szValS_any _ key (l - table.size) _ (HK.out.1.on hbv) HK.out.2 (by omega) (by omega)).mono ?_
  rintro e w1 ⟨r, rfl, b1, hr⟩
  have HL1 := HL.on b1
  have hb1 := ch_trans hbv b1
  clear b1 hbv HL
  obtain ⟨c0, c1, c2, c3, c4, c5, c6, c7, c8, c9⟩ := HL1.ten
  rcases hr with rfl | ⟨r0, r1, r2⟩
  · go_wp2
    go_ret
    exact ⟨_, rfl, hb1, Or.inl rfl⟩
  go_wp2_with fail
  refine (szRow_any _ row r _ (HR.out.1.on hb1) HR.out.2 r0 (by omega)).mono ?_
  rintro e w2 ⟨q, rfl, b2, hq⟩
  have HL2 := HL1.on b2
  have hb2 := ch_trans hb1 b2
  clear b2 hb1 HL1 c0 c1 c2 c3 c4 c5 c6 c7 c8 c9
  obtain ⟨c0, c1, c2, c3, c4, c5, c6, c7, c8, c9⟩ := HL2.ten
  rcases hq with rfl | ⟨q0, q1, q2⟩
  · go_wp2
    go_ret
    exact ⟨_, rfl, hb2, Or.inl rfl⟩
  go_wp2_with fail
  refine (szDdl_any _ _ q _ (HD.out _ hb2) HF.out q0 (by omega)).mono ?_
  rintro e w3 ⟨p, rfl, b3, hp⟩
  have hb3 := ch_trans hb2 b3
  clear b3 hb2 c0 c1 c2 c3 c4 c5 c6 c7 c8 c9
  rcases hp with rfl | ⟨p0, p1, p2⟩
  · go_wp2
    go_ret
    exact ⟨_, rfl, hb3, Or.inl rfl⟩
  · have HP : Hid (Dc.few ⟨dk, dt, cs, ks, dn, to⟩) := p2
    clear p2
    go_wp2
    go_ret
    exact ⟨_, rfl, hb3, Or.inr ⟨p0, by omega, r2, q2, HP.out⟩⟩

set_option maxRecDepth 100000 in
set_option maxHeartbeats 1000000 in
/-- laws.eqStmt -/
theorem eqStmt_same (x y : Array Value) (t : Sc) (w : World) (hx : StmtV w x t) (hy : StmtV w y t) : Calls Tryz.prog 18 #[.agg x, .agg y] w fun e w' => e = .returned (.bool true) ∧ Below w.heap.size w w' := by
  obtain ⟨ka, kp, ra, rp, ca, cp, oa, op, rfl, hk, hr, hc, ho⟩ := hx.lit
  obtain ⟨ka', kp', ra', rp', ca', cp', oa', op', rfl, hk', hr', hc', ho'⟩ := hy.lit
  obtain ⟨kind, table, key, row, ⟨dk, dt, cs, ks, dn, to⟩⟩ := t
  simp only [Sc.cells] at *
  have HK : Hid (ValsV w (.slice ka key.length kp) key ∧ ValsV w (.slice ka' key.length kp') key) := ⟨hk, hk'⟩
  have HR : Hid (ValsV w (.slice ra row.length rp) row ∧ ValsV w (.slice ra' row.length rp') row) := ⟨hr, hr'⟩
  have HD : Hid (∀ u : World, Below w.heap.size w u → DdlV u #[.int .i64 dk, .string dt, .slice ca cs.length cp, .slice oa ks.length op, .string dn, .string to] ⟨dk, dt, cs, ks, dn, to⟩ ∧ DdlV u #[.int .i64 dk, .string dt, .slice ca' cs.length cp', .slice oa' ks.length op', .string dn, .string to] ⟨dk, dt, cs, ks, dn, to⟩) := fun u hu => ⟨⟨_, _, rfl, hc.on hu, ho.on hu⟩, ⟨_, _, rfl, hc'.on hu, ho'.on hu⟩⟩
  clear hk hr hc ho hk' hr' hc' ho' hx hy
  have HL := Loc.new w #[.int .i64 kind, .string table, .slice ka key.length kp, .slice ra row.length rp, .int .i64 dk, .string dt, .slice ca cs.length cp, .slice oa ks.length op, .string dn, .string to] 48
  have HM := Loc.new (w.alloc (.cells #[.int .i64 kind, .string table, .slice ka key.length kp, .slice ra row.length rp, .int .i64 dk, .string dt, .slice ca cs.length cp, .slice oa ks.length op, .string dn, .string to] 48)) #[.int .i64 kind, .string table, .slice ka' key.length kp', .slice ra' row.length rp', .int .i64 dk, .string dt, .slice ca' cs.length cp', .slice oa' ks.length op', .string dn, .string to] 48
  rw [show (w.alloc (.cells #[.int .i64 kind, .string table, .slice ka key.length kp, .slice ra row.length rp, .int .i64 dk, .string dt, .slice ca cs.length cp, .slice oa ks.length op, .string dn, .string to] 48)).heap.size = w.heap.size + 1 from by simp] at HM
  go_enter Tryz.func18, Tryz.ntmps18
  go_wp2_with fail
  refine (eqValS_same _ _ key _ (HK.out.1.on (by repeat (first | with_reducible exact Below.refl _ _ | with_reducible assumption | with_reducible refine ch_alloc ?_ _ | with_reducible refine Below.drew ?_ | with_reducible refine below_draws _ ?_ | (with_reducible refine Below.setCell ?_ ?_ _; rotate_left; focus (first | with_reducible exact Nat.le_refl _ | (simp; done) | (simp; omega) | (simp at *; omega))) | with_reducible refine ch_trans ?_ (by with_reducible assumption)))) (HK.out.2.on (by repeat (first | with_reducible exact Below.refl _ _ | with_reducible assumption | with_reducible refine ch_alloc ?_ _ | with_reducible refine Below.drew ?_ | with_reducible refine below_draws _ ?_ | (with_reducible refine Below.setCell ?_ ?_ _; rotate_left; focus (first | with_reducible exact Nat.le_refl _ | (simp; done) | (simp; omega) | (simp at *; omega))) | with_reducible refine ch_trans ?_ (by with_reducible assumption))))).mono ?_
  rintro e w1 ⟨rfl, b1⟩
  have HL1 := HL.on (w' := w1) (by repeat (first | with_reducible exact Below.refl _ _ | with_reducible assumption | with_reducible refine ch_alloc ?_ _ | with_reducible refine Below.drew ?_ | with_reducible refine below_draws _ ?_ | (with_reducible refine Below.setCell ?_ ?_ _; rotate_left; focus (first | with_reducible exact Nat.le_refl _ | (simp; done) | (simp; omega) | (simp at *; omega))) | with_reducible refine ch_trans ?_ (by with_reducible assumption)))
  have HM1 := HM.on (w' := w1) (by repeat (first | with_reducible exact Below.refl _ _ | with_reducible assumption | with_reducible refine ch_alloc ?_ _ | with_reducible refine Below.drew ?_ | with_reducible refine below_draws _ ?_ | (with_reducible refine Below.setCell ?_ ?_ _; rotate_left; focus (first | with_reducible exact Nat.le_refl _ | (simp; done) | (simp; omega) | (simp at *; omega))) | with_reducible refine ch_trans ?_ (by with_reducible assumption)))
  have hb1 : Below w.heap.size w w1 := (by repeat (first | with_reducible exact Below.refl _ _ | with_reducible assumption | with_reducible refine ch_alloc ?_ _ | with_reducible refine Below.drew ?_ | with_reducible refine below_draws _ ?_ | (with_reducible refine Below.setCell ?_ ?_ _; rotate_left; focus (first | with_reducible exact Nat.le_refl _ | (simp; done) | (simp; omega) | (simp at *; omega))) | with_reducible refine ch_trans ?_ (by with_reducible assumption)))
  clear b1 HL HM
  obtain ⟨c0, c1, c2, c3, c4, c5, c6, c7, c8, c9⟩ := HL1.ten
  obtain ⟨d0, d1, d2, d3, d4, d5, d6, d7, d8, d9⟩ := HM1.ten
  go_wp2_with fail
  refine (eqRow_same _ _ row _ (HR.out.1.on (by repeat (first | with_reducible exact Below.refl _ _ | with_reducible assumption | with_reducible refine ch_alloc ?_ _ | with_reducible refine Below.drew ?_ | with_reducible refine below_draws _ ?_ | (with_reducible refine Below.setCell ?_ ?_ _; rotate_left; focus (first | with_reducible exact Nat.le_refl _ | (simp; done) | (simp; omega) | (simp at *; omega))) | with_reducible refine ch_trans ?_ (by with_reducible assumption)))) (HR.out.2.on (by repeat (first | with_reducible exact Below.refl _ _ | with_reducible assumption | with_reducible refine ch_alloc ?_ _ | with_reducible refine Below.drew ?_ | with_reducible refine below_draws _ ?_ | (with_reducible refine Below.setCell ?_ ?_ _; rotate_left; focus (first | with_reducible exact Nat.le_refl _ | (simp; done) | (simp; omega) | (simp at *; omega))) | with_reducible refine ch_trans ?_ (by with_reducible assumption))))).mono ?_
  rintro e w2 ⟨rfl, b2⟩
  have HL2 := HL1.on (w' := w2) (by repeat (first | with_reducible exact Below.refl _ _ | with_reducible assumption | with_reducible refine ch_alloc ?_ _ | with_reducible refine Below.drew ?_ | with_reducible refine below_draws _ ?_ | (with_reducible refine Below.setCell ?_ ?_ _; rotate_left; focus (first | with_reducible exact Nat.le_refl _ | (simp; done) | (simp; omega) | (simp at *; omega))) | with_reducible refine ch_trans ?_ (by with_reducible assumption)))
  have HM2 := HM1.on (w' := w2) (by repeat (first | with_reducible exact Below.refl _ _ | with_reducible assumption | with_reducible refine ch_alloc ?_ _ | with_reducible refine Below.drew ?_ | with_reducible refine below_draws _ ?_ | (with_reducible refine Below.setCell ?_ ?_ _; rotate_left; focus (first | with_reducible exact Nat.le_refl _ | (simp; done) | (simp; omega) | (simp at *; omega))) | with_reducible refine ch_trans ?_ (by with_reducible assumption)))
  have hb2 : Below w.heap.size w w2 := (by repeat (first | with_reducible exact Below.refl _ _ | with_reducible assumption | with_reducible refine ch_alloc ?_ _ | with_reducible refine Below.drew ?_ | with_reducible refine below_draws _ ?_ | (with_reducible refine Below.setCell ?_ ?_ _; rotate_left; focus (first | with_reducible exact Nat.le_refl _ | (simp; done) | (simp; omega) | (simp at *; omega))) | with_reducible refine ch_trans ?_ (by with_reducible assumption)))
  clear c0 c1 c2 c3 c4 c5 c6 c7 c8 c9 d0 d1 d2 d3 d4 d5 d6 d7 d8 d9 b2 hb1 HL1 HM1
  obtain ⟨c0, c1, c2, c3, c4, c5, c6, c7, c8, c9⟩ := HL2.ten
  obtain ⟨d0, d1, d2, d3, d4, d5, d6, d7, d8, d9⟩ := HM2.ten
  go_wp2_with fail
  refine (eqDdl_same _ _ _ _ (HD.out _ hb2).1 (HD.out _ hb2).2).mono ?_
  rintro e w3 ⟨rfl, b3⟩
  go_wp2
  go_ret
  exact ⟨rfl, (by repeat (first | with_reducible exact Below.refl _ _ | with_reducible assumption | with_reducible refine ch_alloc ?_ _ | with_reducible refine Below.drew ?_ | with_reducible refine below_draws _ ?_ | (with_reducible refine Below.setCell ?_ ?_ _; rotate_left; focus (first | with_reducible exact Nat.le_refl _ | (simp; done) | (simp; omega) | (simp at *; omega))) | with_reducible refine ch_trans ?_ (by with_reducible assumption)))⟩

set_option maxRecDepth 100000 in
set_option maxHeartbeats 2000000 in
/-- laws.toStmt -/
theorem toStmt_any (x : Array Value) (t : Sc) (w : World) (hx : StmtV w x t) (hf : t.few) :
    Calls Tryz.prog 105 #[.agg x] w fun e w' => ∃ y, e = .returned (.agg y) ∧ Below w.heap.size w w' ∧ Firm w.heap.size (fun u => StmtV u y t) w' := by
  obtain ⟨ka, kp, ra, rp, ca, cp, oa, op, rfl, hk, hr, hc, ho⟩ := hx.lit
  obtain ⟨hfk, hfr, hfd⟩ := hf
  obtain ⟨kind, table, key, row, ⟨dk, dt, cs, ks, dn, to⟩⟩ := t
  simp only [Sc.cells] at *
  have HK : Hid (ValsV w (.slice ka key.length kp) key) := hk
  have HR : Hid (ValsV w (.slice ra row.length rp) row) := hr
  have HD : Hid (∀ u : World, Below w.heap.size w u → DdlV u #[.int .i64 dk, .string dt, .slice ca cs.length cp, .slice oa ks.length op, .string dn, .string to] ⟨dk, dt, cs, ks, dn, to⟩) := fun u hu => ⟨_, _, rfl, hc.on hu, ho.on hu⟩
  have HF : Hid (Dc.few ⟨dk, dt, cs, ks, dn, to⟩) := hfd
  have hkm : key.length ≤ maxLen := by unfold maxLen; omega
  have hrm : row.length ≤ maxLen := by unfold maxLen; omega
  clear hk hr hc ho hfd hx
  have HL := Loc.new w #[.int .i64 kind, .string table, .slice ka key.length kp, .slice ra row.length rp, .int .i64 dk, .string dt, .slice ca cs.length cp, .slice oa ks.length op, .string dn, .string to] 105
  go_enter Tryz.func105, Tryz.ntmps105
  go_wp2_with fail
  have hb0 : Below w.heap.size w (((w.alloc (.cells #[.int .i64 kind, .string table, .slice ka key.length kp, .slice ra row.length rp, .int .i64 dk, .string dt, .slice ca cs.length cp, .slice oa ks.length op, .string dn, .string to] 105)).alloc (.cells #[.int .i64 0, .string { data := #[] }, .slice none 0 0, .slice none 0 0, .int .i64 0, .string { data := #[] }, .slice none 0 0, .slice none 0 0, .string { data := #[] }, .string { data := #[] }] 48)).alloc (.cells #[.int .i64 kind, .string table, .slice none 0 0, .slice none 0 0, .int .i64 0, .string { data := #[] }, .slice none 0 0, .slice none 0 0, .string { data := #[] }, .string { data := #[] }] 48)) := (by repeat (first | with_reducible exact Below.refl _ _ | with_reducible assumption | with_reducible refine ch_alloc ?_ _ | with_reducible refine Below.drew ?_ | with_reducible refine below_draws _ ?_ | (with_reducible refine Below.setCell ?_ ?_ _; rotate_left; focus (first | with_reducible exact Nat.le_refl _ | (simp; done) | (simp; omega) | (simp at *; omega))) | with_reducible refine ch_trans ?_ (by with_reducible assumption)))
  have HQ := Own.at (w.alloc (.cells #[.int .i64 kind, .string table, .slice ka key.length kp, .slice ra row.length rp, .int .i64 dk, .string dt, .slice ca cs.length cp, .slice oa ks.length op, .string dn, .string to] 105)) 48 #[.int .i64 0, .string { data := #[] }, .slice none 0 0, .slice none 0 0, .int .i64 0, .string { data := #[] }, .slice none 0 0, .slice none 0 0, .string { data := #[] }, .string { data := #[] }] (n := w.heap.size + 1) (by simp)
  have HO := Own.at ((w.alloc (.cells #[.int .i64 kind, .string table, .slice ka key.length kp, .slice ra row.length rp, .int .i64 dk, .string dt, .slice ca cs.length cp, .slice oa ks.length op, .string dn, .string to] 105)).alloc (.cells #[.int .i64 0, .string { data := #[] }, .slice none 0 0, .slice none 0 0, .int .i64 0, .string { data := #[] }, .slice none 0 0, .slice none 0 0, .string { data := #[] }, .string { data := #[] }] 48)) 48 #[.int .i64 kind, .string table, .slice none 0 0, .slice none 0 0, .int .i64 0, .string { data := #[] }, .slice none 0 0, .slice none 0 0, .string { data := #[] }, .string { data := #[] }] (n := w.heap.size + 1 + 1) (by simp)
  have HQ0 := HQ.on (ch_alloc (Below.refl _ _) (.cells #[.int .i64 kind, .string table, .slice none 0 0, .slice none 0 0, .int .i64 0, .string { data := #[] }, .slice none 0 0, .slice none 0 0, .string { data := #[] }, .string { data := #[] }] 48))
  have HL0 := (HL.on1 (.cells #[.int .i64 0, .string { data := #[] }, .slice none 0 0, .slice none 0 0, .int .i64 0, .string { data := #[] }, .slice none 0 0, .slice none 0 0, .string { data := #[] }, .string { data := #[] }] 48)).on1 (.cells #[.int .i64 kind, .string table, .slice none 0 0, .slice none 0 0, .int .i64 0, .string { data := #[] }, .slice none 0 0, .slice none 0 0, .string { data := #[] }, .string { data := #[] }] 48)
  have hs0 : w.heap.size + 1 + 1 + 1 ≤ (((w.alloc (.cells #[.int .i64 kind, .string table, .slice ka key.length kp, .slice ra row.length rp, .int .i64 dk, .string dt, .slice ca cs.length cp, .slice oa ks.length op, .string dn, .string to] 105)).alloc (.cells #[.int .i64 0, .string { data := #[] }, .slice none 0 0, .slice none 0 0, .int .i64 0, .string { data := #[] }, .slice none 0 0, .slice none 0 0, .string { data := #[] }, .string { data := #[] }] 48)).alloc (.cells #[.int .i64 kind, .string table, .slice none 0 0, .slice none 0 0, .int .i64 0, .string { data := #[] }, .slice none 0 0, .slice none 0 0, .string { data := #[] }, .string { data := #[] }] 48)).heap.size := by simp
  clear HL HQ
  generalize ((w.alloc (.cells #[.int .i64 kind, .string table, .slice ka key.length kp, .slice ra row.length rp, .int .i64 dk, .string dt, .slice ca cs.length cp, .slice oa ks.length op, .string dn, .string to] 105)).alloc (.cells #[.int .i64 0, .string { data := #[] }, .slice none 0 0, .slice none 0 0, .int .i64 0, .string { data := #[] }, .slice none 0 0, .slice none 0 0, .string { data := #[] }, .string { data := #[] }] 48)).alloc (.cells #[.int .i64 kind, .string table, .slice none 0 0, .slice none 0 0, .int .i64 0, .string { data := #[] }, .slice none 0 0, .slice none 0 0, .string { data := #[] }, .string { data := #[] }] 48) = u0 at hb0 HO HQ0 HL0 hs0 ⊢
  refine (toValS_any _ key _ (HK.out.on hb0) hfk).mono ?_
  rintro e w1 ⟨rfl, b1, hy⟩
  have HY : Hid (Firm (w.heap.size + 1 + 1 + 1) (fun u => ValsV u (.slice (some ⟨u0.heap.size, 0, none⟩) key.length key.length) key) w1) := ((hy.firm (Nat.le_refl _)).imp fun u hu => hu.valsV hkm).mono hs0
  have hb1 := ch_trans hb0 b1
  have HO1 := HO.on b1
  have HQ1 := HQ0.on b1
  have HL1 := HL0.on b1
  have hs1 : w.heap.size + 1 + 1 + 1 ≤ w1.heap.size := by have := b1.size; omega
  generalize u0.heap.size = B1 at HY ⊢
  clear hy hb0 b1 HO HQ0 HL0 hs0
  obtain ⟨c0, c1, c2, c3, c4, c5, c6, c7, c8, c9⟩ := HL1.ten
  obtain ⟨d0, d1, d2, d3, d4, d5, d6, d7, d8, d9⟩ := HO1.loc.ten
  have f2 := HO1.frozen 2
  go_wp2_with fail
  have HO2 := HO1.set 2 (.slice (some ⟨B1, 0, none⟩) key.length key.length)
  have HQ2 := HQ1.other (p := ⟨w.heap.size + 1 + 1, 2, none⟩) (by simp) (.slice (some ⟨B1, 0, none⟩) key.length key.length)
  have hb2 : Below w.heap.size w (w1.setCell ⟨w.heap.size + 1 + 1, 2, none⟩ (.slice (some ⟨B1, 0, none⟩) key.length key.length)) := (by repeat (first | with_reducible exact Below.refl _ _ | with_reducible assumption | with_reducible refine ch_alloc ?_ _ | with_reducible refine Below.drew ?_ | with_reducible refine below_draws _ ?_ | (with_reducible refine Below.setCell ?_ ?_ _; rotate_left; focus (first | with_reducible exact Nat.le_refl _ | (simp; done) | (simp; omega) | (simp at *; omega))) | with_reducible refine ch_trans ?_ (by with_reducible assumption)))
  have HL2 := HL1.other (p := ⟨w.heap.size + 1 + 1, 2, none⟩) (by simp; omega) (.slice (some ⟨B1, 0, none⟩) key.length key.length)
  have HY2 : Hid (Firm (w.heap.size + 1 + 1 + 1) (fun u => ValsV u (.slice (some ⟨B1, 0, none⟩) key.length key.length) key) (w1.setCell ⟨w.heap.size + 1 + 1, 2, none⟩ (.slice (some ⟨B1, 0, none⟩) key.length key.length))) := HY.out.set (by simp) _
  have hs2 : w.heap.size + 1 + 1 + 1 ≤ (w1.setCell ⟨w.heap.size + 1 + 1, 2, none⟩ (.slice (some ⟨B1, 0, none⟩) key.length key.length)).heap.size := by simpa using hs1
  clear HY hs1 HO1 HQ1 HL1 hb1 c0 c1 c2 c3 c4 c5 c6 c7 c8 c9 d0 d1 d2 d3 d4 d5 d6 d7 d8 d9 f2
  generalize (w1.setCell ⟨w.heap.size + 1 + 1, 2, none⟩ (.slice (some ⟨B1, 0, none⟩) key.length key.length)) = u1 at HO2 HQ2 hb2 HL2 HY2 hs2 ⊢
  refine (toRow_any _ row _ (HR.out.on hb2) hfr).mono ?_
  rintro e w2 ⟨B2, rfl, hB2, b2, hy⟩
  have HZ : Hid (Firm (w.heap.size + 1 + 1 + 1) (fun u => ValsV u (.slice (some ⟨B2, 0, none⟩) row.length row.length) row) w2) := ((hy.firm (Nat.le_refl _)).imp fun u hu => hu.valsV hrm).mono (by omega)
  have HY3 : Hid (Firm (w.heap.size + 1 + 1 + 1) (fun u => ValsV u (.slice (some ⟨B1, 0, none⟩) key.length key.length) key) w2) := HY2.out.on b2
  have hb3 := ch_trans hb2 b2
  have HO3 := HO2.on b2
  have HQ3 := HQ2.on b2
  have HL3 := HL2.on b2
  have hs3 : w.heap.size + 1 + 1 + 1 ≤ w2.heap.size := by have := b2.size; omega
  clear hy hB2 b2 HO2 HQ2 HL2 hb2 hs2 HY2
  obtain ⟨c0, c1, c2, c3, c4, c5, c6, c7, c8, c9⟩ := HL3.ten
  obtain ⟨d0, d1, d2, d3, d4, d5, d6, d7, d8, d9⟩ := HO3.loc.ten
  have f3 := HO3.frozen 3
  go_wp2_with fail
  have HO4 := HO3.set 3 (.slice (some ⟨B2, 0, none⟩) row.length row.length)
  have HQ4 := HQ3.other (p := ⟨w.heap.size + 1 + 1, 3, none⟩) (by simp) (.slice (some ⟨B2, 0, none⟩) row.length row.length)
  have HF4 : Hid (Firm (w.heap.size + 1 + 1 + 1) (fun u => ValsV u (.slice (some ⟨B1, 0, none⟩) key.length key.length) key ∧ ValsV u (.slice (some ⟨B2, 0, none⟩) row.length row.length) row) (w2.setCell ⟨w.heap.size + 1 + 1, 3, none⟩ (.slice (some ⟨B2, 0, none⟩) row.length row.length))) := (HY3.out.and HZ.out).set (by simp) _
  have hb4 : Below w.heap.size w (w2.setCell ⟨w.heap.size + 1 + 1, 3, none⟩ (.slice (some ⟨B2, 0, none⟩) row.length row.length)) := (by repeat (first | with_reducible exact Below.refl _ _ | with_reducible assumption | with_reducible refine ch_alloc ?_ _ | with_reducible refine Below.drew ?_ | with_reducible refine below_draws _ ?_ | (with_reducible refine Below.setCell ?_ ?_ _; rotate_left; focus (first | with_reducible exact Nat.le_refl _ | (simp; done) | (simp; omega) | (simp at *; omega))) | with_reducible refine ch_trans ?_ (by with_reducible assumption)))
  have hs4 : w.heap.size + 1 + 1 + 1 ≤ (w2.setCell ⟨w.heap.size + 1 + 1, 3, none⟩ (.slice (some ⟨B2, 0, none⟩) row.length row.length)).heap.size := by simpa using hs3
  clear HY3 HZ HO3 HQ3 HL3 hb3 hs3 c0 c1 c2 c3 c4 c5 c6 c7 c8 c9 d0 d1 d2 d3 d4 d5 d6 d7 d8 d9 f3
  generalize (w2.setCell ⟨w.heap.size + 1 + 1, 3, none⟩ (.slice (some ⟨B2, 0, none⟩) row.length row.length)) = u2 at HO4 HQ4 hb4 HF4 hs4 ⊢
  refine (toDdl_any _ ⟨dk, dt, cs, ks, dn, to⟩ _ (HD.out _ hb4) HF.out).mono ?_
  rintro e w3 ⟨y, rfl, b3, hy, hyf⟩
  obtain ⟨c1, q1, o1, q2, rfl, hy, _, _⟩ := hy.lit
  have HZ : Hid (Firm (w.heap.size + 1 + 1 + 1) (fun u => DdlV u #[.int .i64 dk, .string dt, .slice c1 cs.length q1, .slice o1 ks.length q2, .string dn, .string to] ⟨dk, dt, cs, ks, dn, to⟩) w3) := (hy.firm hyf).mono (by omega)
  have HF5 : Hid (Firm (w.heap.size + 1 + 1 + 1) (fun u => ValsV u (.slice (some ⟨B1, 0, none⟩) key.length key.length) key ∧ ValsV u (.slice (some ⟨B2, 0, none⟩) row.length row.length) row) w3) := HF4.out.on b3
  have HF6 : Hid (Firm (w.heap.size + 1 + 1 + 1) (fun u => StmtV u #[.int .i64 kind, .string table, .slice (some ⟨B1, 0, none⟩) key.length key.length, .slice (some ⟨B2, 0, none⟩) row.length row.length, .int .i64 dk, .string dt, .slice c1 cs.length q1, .slice o1 ks.length q2, .string dn, .string to] ⟨kind, table, key, row, ⟨dk, dt, cs, ks, dn, to⟩⟩) w3) := (HF5.out.and HZ.out).imp fun u ⟨⟨h1, h2⟩, h3⟩ => by
    obtain ⟨cv, kv, e, h4, h5⟩ := h3
    simp at e
    obtain ⟨rfl, rfl⟩ := e
    exact ⟨_, _, _, _, rfl, h1, h2, h4, h5⟩
  have hb3 := ch_trans hb4 b3
  have HO3 := HO4.on b3
  have HQ3 := HQ4.on b3
  clear hy hyf HZ HF5 HF4 b3 HO4 HQ4 hb4 hs4
  obtain ⟨d0, d1, d2, d3, d4, d5, d6, d7, d8, d9⟩ := HO3.loc.ten
  have f4 := HO3.frozen 4
  have f5 := HO3.frozen 5
  have f6 := HO3.frozen 6
  have f7 := HO3.frozen 7
  have f8 := HO3.frozen 8
  have f9 := HO3.frozen 9
  obtain ⟨g0, g1, g2, g3, g4, g5, g6, g7, g8, g9⟩ := HQ3.loc.ten
  have i0 := HQ3.frozen 0
  have i1 := HQ3.frozen 1
  have i2 := HQ3.frozen 2
  have i3 := HQ3.frozen 3
  have i4 := HQ3.frozen 4
  have i5 := HQ3.frozen 5
  have i6 := HQ3.frozen 6
  have i7 := HQ3.frozen 7
  have i8 := HQ3.frozen 8
  have i9 := HQ3.frozen 9
  go_wp2
  have HQ4 : Own ((((((((((((((((w3.setCell ⟨w.heap.size + 1 + 1, 4, none⟩ (.int .i64 dk)).setCell ⟨w.heap.size + 1 + 1, 5, none⟩ (.string dt)).setCell ⟨w.heap.size + 1 + 1, 6, none⟩ (.slice c1 cs.length q1)).setCell ⟨w.heap.size + 1 + 1, 7, none⟩ (.slice o1 ks.length q2)).setCell ⟨w.heap.size + 1 + 1, 8, none⟩ (.string dn)).setCell ⟨w.heap.size + 1 + 1, 9, none⟩ (.string to)).setCell ⟨w.heap.size + 1, 0, none⟩ (.int .i64 kind)).setCell ⟨w.heap.size + 1, 1, none⟩ (.string table)).setCell ⟨w.heap.size + 1, 2, none⟩ (.slice (some ⟨B1, 0, none⟩) key.length key.length)).setCell ⟨w.heap.size + 1, 3, none⟩ (.slice (some ⟨B2, 0, none⟩) row.length row.length)).setCell ⟨w.heap.size + 1, 4, none⟩ (.int .i64 dk)).setCell ⟨w.heap.size + 1, 5, none⟩ (.string dt)).setCell ⟨w.heap.size + 1, 6, none⟩ (.slice c1 cs.length q1)).setCell ⟨w.heap.size + 1, 7, none⟩ (.slice o1 ks.length q2)).setCell ⟨w.heap.size + 1, 8, none⟩ (.string dn)).setCell ⟨w.heap.size + 1, 9, none⟩ (.string to)) _ _ #[.int .i64 kind, .string table, .slice (some ⟨B1, 0, none⟩) key.length key.length, .slice (some ⟨B2, 0, none⟩) row.length row.length, .int .i64 dk, .string dt, .slice c1 cs.length q1, .slice o1 ks.length q2, .string dn, .string to] := (Own.past (c := w.heap.size + 1 + 1) (by omega) [.int .i64 dk, .string dt, .slice c1 cs.length q1, .slice o1 ks.length q2, .string dn, .string to] _ 4 HQ3).fill (old := [_, _, _, _, _, _, _, _, _, _]) [.int .i64 kind, .string table, .slice (some ⟨B1, 0, none⟩) key.length key.length, .slice (some ⟨B2, 0, none⟩) row.length row.length, .int .i64 dk, .string dt, .slice c1 cs.length q1, .slice o1 ks.length q2, .string dn, .string to] rfl
  have HF7 : Hid (Firm (w.heap.size + 1 + 1 + 1) (fun u => StmtV u #[.int .i64 kind, .string table, .slice (some ⟨B1, 0, none⟩) key.length key.length, .slice (some ⟨B2, 0, none⟩) row.length row.length, .int .i64 dk, .string dt, .slice c1 cs.length q1, .slice o1 ks.length q2, .string dn, .string to] ⟨kind, table, key, row, ⟨dk, dt, cs, ks, dn, to⟩⟩) ((((((((((((((((w3.setCell ⟨w.heap.size + 1 + 1, 4, none⟩ (.int .i64 dk)).setCell ⟨w.heap.size + 1 + 1, 5, none⟩ (.string dt)).setCell ⟨w.heap.size + 1 + 1, 6, none⟩ (.slice c1 cs.length q1)).setCell ⟨w.heap.size + 1 + 1, 7, none⟩ (.slice o1 ks.length q2)).setCell ⟨w.heap.size + 1 + 1, 8, none⟩ (.string dn)).setCell ⟨w.heap.size + 1 + 1, 9, none⟩ (.string to)).setCell ⟨w.heap.size + 1, 0, none⟩ (.int .i64 kind)).setCell ⟨w.heap.size + 1, 1, none⟩ (.string table)).setCell ⟨w.heap.size + 1, 2, none⟩ (.slice (some ⟨B1, 0, none⟩) key.length key.length)).setCell ⟨w.heap.size + 1, 3, none⟩ (.slice (some ⟨B2, 0, none⟩) row.length row.length)).setCell ⟨w.heap.size + 1, 4, none⟩ (.int .i64 dk)).setCell ⟨w.heap.size + 1, 5, none⟩ (.string dt)).setCell ⟨w.heap.size + 1, 6, none⟩ (.slice c1 cs.length q1)).setCell ⟨w.heap.size + 1, 7, none⟩ (.slice o1 ks.length q2)).setCell ⟨w.heap.size + 1, 8, none⟩ (.string dn)).setCell ⟨w.heap.size + 1, 9, none⟩ (.string to))) := Firm.stores (b := w.heap.size + 1) (by omega) [.int .i64 kind, .string table, .slice (some ⟨B1, 0, none⟩) key.length key.length, .slice (some ⟨B2, 0, none⟩) row.length row.length, .int .i64 dk, .string dt, .slice c1 cs.length q1, .slice o1 ks.length q2, .string dn, .string to] _ 0 (Firm.stores (b := w.heap.size + 1 + 1) (by omega) [.int .i64 dk, .string dt, .slice c1 cs.length q1, .slice o1 ks.length q2, .string dn, .string to] _ 4 HF6.out)
  have HB : Hid (Below w.heap.size w ((((((((((((((((w3.setCell ⟨w.heap.size + 1 + 1, 4, none⟩ (.int .i64 dk)).setCell ⟨w.heap.size + 1 + 1, 5, none⟩ (.string dt)).setCell ⟨w.heap.size + 1 + 1, 6, none⟩ (.slice c1 cs.length q1)).setCell ⟨w.heap.size + 1 + 1, 7, none⟩ (.slice o1 ks.length q2)).setCell ⟨w.heap.size + 1 + 1, 8, none⟩ (.string dn)).setCell ⟨w.heap.size + 1 + 1, 9, none⟩ (.string to)).setCell ⟨w.heap.size + 1, 0, none⟩ (.int .i64 kind)).setCell ⟨w.heap.size + 1, 1, none⟩ (.string table)).setCell ⟨w.heap.size + 1, 2, none⟩ (.slice (some ⟨B1, 0, none⟩) key.length key.length)).setCell ⟨w.heap.size + 1, 3, none⟩ (.slice (some ⟨B2, 0, none⟩) row.length row.length)).setCell ⟨w.heap.size + 1, 4, none⟩ (.int .i64 dk)).setCell ⟨w.heap.size + 1, 5, none⟩ (.string dt)).setCell ⟨w.heap.size + 1, 6, none⟩ (.slice c1 cs.length q1)).setCell ⟨w.heap.size + 1, 7, none⟩ (.slice o1 ks.length q2)).setCell ⟨w.heap.size + 1, 8, none⟩ (.string dn)).setCell ⟨w.heap.size + 1, 9, none⟩ (.string to))) := by
    show Below _ _ _
    exact stores_below (b := w.heap.size + 1) (by omega) [.int .i64 kind, .string table, .slice (some ⟨B1, 0, none⟩) key.length key.length, .slice (some ⟨B2, 0, none⟩) row.length row.length, .int .i64 dk, .string dt, .slice c1 cs.length q1, .slice o1 ks.length q2, .string dn, .string to] _ 0 (stores_below (b := w.heap.size + 1 + 1) (by omega) [.int .i64 dk, .string dt, .slice c1 cs.length q1, .slice o1 ks.length q2, .string dn, .string to] _ 4 hb3)
  generalize ((((((((((((((((w3.setCell ⟨w.heap.size + 1 + 1, 4, none⟩ (.int .i64 dk)).setCell ⟨w.heap.size + 1 + 1, 5, none⟩ (.string dt)).setCell ⟨w.heap.size + 1 + 1, 6, none⟩ (.slice c1 cs.length q1)).setCell ⟨w.heap.size + 1 + 1, 7, none⟩ (.slice o1 ks.length q2)).setCell ⟨w.heap.size + 1 + 1, 8, none⟩ (.string dn)).setCell ⟨w.heap.size + 1 + 1, 9, none⟩ (.string to)).setCell ⟨w.heap.size + 1, 0, none⟩ (.int .i64 kind)).setCell ⟨w.heap.size + 1, 1, none⟩ (.string table)).setCell ⟨w.heap.size + 1, 2, none⟩ (.slice (some ⟨B1, 0, none⟩) key.length key.length)).setCell ⟨w.heap.size + 1, 3, none⟩ (.slice (some ⟨B2, 0, none⟩) row.length row.length)).setCell ⟨w.heap.size + 1, 4, none⟩ (.int .i64 dk)).setCell ⟨w.heap.size + 1, 5, none⟩ (.string dt)).setCell ⟨w.heap.size + 1, 6, none⟩ (.slice c1 cs.length q1)).setCell ⟨w.heap.size + 1, 7, none⟩ (.slice o1 ks.length q2)).setCell ⟨w.heap.size + 1, 8, none⟩ (.string dn)).setCell ⟨w.heap.size + 1, 9, none⟩ (.string to)) = W at HQ4 HB HF7 ⊢
  obtain ⟨e0, e1, e2, e3, e4, e5, e6, e7, e8, e9⟩ := HQ4.loc.ten
  exact bodyPost_ret (v := .agg #[.int .i64 kind, .string table, .slice (some ⟨B1, 0, none⟩) key.length key.length, .slice (some ⟨B2, 0, none⟩) row.length row.length, .int .i64 dk, .string dt, .slice c1 cs.length q1, .slice o1 ks.length q2, .string dn, .string to]) (by simp [results, Tryz.results105, go_sem, e0, e1, e2, e3, e4, e5, e6, e7, e8, e9]) rfl ⟨_, rfl, HB.out, HF7.out.mono (by omega)⟩
end Go.Proofs.YtikccmgpmbnkfaaGreat
