/- Parts of batches in memory: the laws' size and look, one and lists. -/
import Derived.Test.YtikccmgpmbnkfaaXl
namespace Go.Proofs.Ytikccmgpmbnkfaa
open Go.ChangeShapes Go.WideShapes Go.ChangeAt Go.RowKit

/-- What a part holds. -/
structure Ptc where
  st : Sc
  cols : List ByteArray
  keys : List ByteArray
abbrev Ptc.cells (t : Ptc) (k r c o y z : Value) : Array Value := #[.int .i64 t.st.kind, .string t.st.table, k, r, .int .i64 t.st.ddl.kind, .string t.st.ddl.table, c, o, .string t.st.ddl.name, .string t.st.ddl.to, y, z]
def PartV (w : World) (x : Array Value) (t : Ptc) : Prop := ∃ k r c o y z, x = t.cells k r c o y z ∧ ValsV w k t.st.key ∧ ValsV w r t.st.row ∧ ColsV w c t.st.ddl.cols ∧ StrsV w o t.st.ddl.keys ∧ StrsV w y t.cols ∧ StrsV w z t.keys
theorem PartV.on {w w' : World} {x : Array Value} {t : Ptc} (h : PartV w x t) (b : Below w.heap.size w w') : PartV w' x t := by
  obtain ⟨k, r, c, o, y, z, e, h1, h2, h3, h4, h5, h6⟩ := h; exact ⟨k, r, c, o, y, z, e, h1.on b, h2.on b, h3.on b, h4.on b, h5.on b, h6.on b⟩
theorem PartV.lit {w : World} {x : Array Value} {t : Ptc} (h : PartV w x t) : ∃ ka kp ra rp ca cp oa op ya yp za zp, x = #[.int .i64 t.st.kind, .string t.st.table, .slice ka t.st.key.length kp, .slice ra t.st.row.length rp, .int .i64 t.st.ddl.kind, .string t.st.ddl.table, .slice ca t.st.ddl.cols.length cp, .slice oa t.st.ddl.keys.length op, .string t.st.ddl.name, .string t.st.ddl.to, .slice ya t.cols.length yp, .slice za t.keys.length zp] ∧ PartV w #[.int .i64 t.st.kind, .string t.st.table, .slice ka t.st.key.length kp, .slice ra t.st.row.length rp, .int .i64 t.st.ddl.kind, .string t.st.ddl.table, .slice ca t.st.ddl.cols.length cp, .slice oa t.st.ddl.keys.length op, .string t.st.ddl.name, .string t.st.ddl.to, .slice ya t.cols.length yp, .slice za t.keys.length zp] t ∧ StmtV w #[.int .i64 t.st.kind, .string t.st.table, .slice ka t.st.key.length kp, .slice ra t.st.row.length rp, .int .i64 t.st.ddl.kind, .string t.st.ddl.table, .slice ca t.st.ddl.cols.length cp, .slice oa t.st.ddl.keys.length op, .string t.st.ddl.name, .string t.st.ddl.to] t.st ∧ StrsV w (.slice ya t.cols.length yp) t.cols ∧ StrsV w (.slice za t.keys.length zp) t.keys := by
  obtain ⟨k, r, c, o, y, z, rfl, h1, h2, h3, h4, h5, h6⟩ := h
  obtain ⟨a, p, rfl, _⟩ := h1.lit
  obtain ⟨b, q, rfl, _⟩ := h2.lit
  obtain ⟨c, r, rfl, h3'⟩ := id h3
  obtain ⟨d, u, rfl, h4'⟩ := id h4
  obtain ⟨e, v, rfl, h5'⟩ := id h5
  obtain ⟨f, x, rfl, h6'⟩ := id h6
  exact ⟨a, p, b, q, c, r, d, u, e, v, f, x, rfl, ⟨_, _, _, _, _, _, rfl, h1, h2, h3, h4, h5, h6⟩, ⟨_, _, _, _, rfl, h1, h2, h3, h4⟩, h5, h6⟩
theorem PartV.size {w : World} {x : Array Value} {t : Ptc} (h : PartV w x t) : x.size = 12 := by
  obtain ⟨k, r, c, o, y, z, rfl, _⟩ := h; rfl
def Ptc.fit (t : Ptc) : Prop := t.st.fit ∧ (∀ s ∈ t.cols, s.size ≤ maxLen) ∧ ∀ s ∈ t.keys, s.size ≤ maxLen
def Ptc.few (t : Ptc) : Prop := t.st.few ∧ t.cols.length ≤ 1048576 ∧ t.keys.length ≤ 1048576

set_option maxRecDepth 100000 in
set_option maxHeartbeats 1000000 in
/-- laws.szPart -/
theorem szPart_any (x : Array Value) (t : Ptc) (l : Int) (w : World) (hx : PartV w x t) (hf : t.fit) (h0 : 0 ≤ l) (h1 : l ≤ 1048576) :
    Calls Try.prog 58 #[.agg x, .int .i64 l] w fun e w' => ∃ r : Int, e = .returned (.int .i64 r) ∧ Below w.heap.size w w' ∧ (r = -1 ∨ (0 ≤ r ∧ r ≤ l ∧ t.few)) := by
  obtain ⟨ka, kp, ra, rp, ca, cp, oa, op, ya, yp, za, zp, rfl, _, hs, hy, hz⟩ := hx.lit
  have HS : Hid (StmtV w #[.int .i64 t.st.kind, .string t.st.table, .slice ka t.st.key.length kp, .slice ra t.st.row.length rp, .int .i64 t.st.ddl.kind, .string t.st.ddl.table, .slice ca t.st.ddl.cols.length cp, .slice oa t.st.ddl.keys.length op, .string t.st.ddl.name, .string t.st.ddl.to] t.st ∧ t.st.fit) := ⟨hs, hf.1⟩
  have HY : Hid (StrsV w (.slice ya t.cols.length yp) t.cols ∧ ∀ s ∈ t.cols, s.size ≤ maxLen) := ⟨hy, hf.2.1⟩
  have HZ : Hid (StrsV w (.slice za t.keys.length zp) t.keys ∧ ∀ s ∈ t.keys, s.size ≤ maxLen) := ⟨hz, hf.2.2⟩
  clear hs hy hz hx hf
  have HL := Loc.new w #[.int .i64 t.st.kind, .string t.st.table, .slice ka t.st.key.length kp, .slice ra t.st.row.length rp, .int .i64 t.st.ddl.kind, .string t.st.ddl.table, .slice ca t.st.ddl.cols.length cp, .slice oa t.st.ddl.keys.length op, .string t.st.ddl.name, .string t.st.ddl.to, .slice ya t.cols.length yp, .slice za t.keys.length zp] 104
  have hbv : Below w.heap.size w (w.alloc (.cells #[.int .i64 t.st.kind, .string t.st.table, .slice ka t.st.key.length kp, .slice ra t.st.row.length rp, .int .i64 t.st.ddl.kind, .string t.st.ddl.table, .slice ca t.st.ddl.cols.length cp, .slice oa t.st.ddl.keys.length op, .string t.st.ddl.name, .string t.st.ddl.to, .slice ya t.cols.length yp, .slice za t.keys.length zp] 104)) := (by repeat (first | with_reducible exact Below.refl _ _ | with_reducible assumption | with_reducible refine ch_alloc ?_ _ | with_reducible refine Below.drew ?_ | with_reducible refine below_draws _ ?_ | (with_reducible refine Below.setCell ?_ ?_ _; rotate_left; focus (first | with_reducible exact Nat.le_refl _ | (simp; done) | (simp; omega) | (simp at *; omega))) | with_reducible refine ch_trans ?_ (by with_reducible assumption)))
  go_enter Try.func58, Try.ntmps58
  go_wp2_with fail
  refine (szStmt_any _ t.st l _ (HS.out.1.on hbv) HS.out.2 h0 h1).mono ?_
  rintro e w1 ⟨r, rfl, b1, hr⟩
  have HL1 := HL.on b1
  have hb1 := ch_trans hbv b1
  clear b1 hbv HL
  obtain ⟨c0, c1, c2, c3, c4, c5, c6, c7, c8, c9, c10, c11⟩ := HL1.twelve
  rcases hr with rfl | ⟨r0, r1, r2⟩
  · go_wp2
    go_ret
    exact ⟨_, rfl, hb1, Or.inl rfl⟩
  have HR : Hid t.st.few := r2
  clear r2
  go_wp2_with fail
  refine (szStringS_any _ t.cols r _ (HY.out.1.on hb1) HY.out.2 r0 (by omega)).mono ?_
  rintro e w2 ⟨q, rfl, b2, hq⟩
  have HL2 := HL1.on b2
  have hb2 := ch_trans hb1 b2
  clear b2 hb1 HL1 c0 c1 c2 c3 c4 c5 c6 c7 c8 c9 c10 c11
  obtain ⟨c0, c1, c2, c3, c4, c5, c6, c7, c8, c9, c10, c11⟩ := HL2.twelve
  rcases hq with rfl | ⟨q0, q1, q2⟩
  · go_wp2
    go_ret
    exact ⟨_, rfl, hb2, Or.inl rfl⟩
  have HQ : Hid (t.cols.length ≤ 1048576) := q2
  clear q2
  go_wp2_with fail
  refine (szStringS_any _ t.keys q _ (HZ.out.1.on hb2) HZ.out.2 q0 (by omega)).mono ?_
  rintro e w3 ⟨p, rfl, b3, hp⟩
  have hb3 := ch_trans hb2 b3
  clear b3 hb2 c0 c1 c2 c3 c4 c5 c6 c7 c8 c9 c10 c11
  rcases hp with rfl | ⟨p0, p1, p2⟩
  · go_wp2
    go_ret
    exact ⟨_, rfl, hb3, Or.inl rfl⟩
  have HP : Hid (t.keys.length ≤ 1048576) := p2
  clear p2
  go_wp2
  go_ret
  exact ⟨_, rfl, hb3, Or.inr ⟨p0, by omega, HR.out, HQ.out, HP.out⟩⟩

set_option maxRecDepth 100000 in
set_option maxHeartbeats 1000000 in
/-- laws.eqPart -/
theorem eqPart_same (x y : Array Value) (t : Ptc) (w : World) (hx : PartV w x t) (hy : PartV w y t) : Calls Try.prog 68 #[.agg x, .agg y] w fun e w' => e = .returned (.bool true) ∧ Below w.heap.size w w' := by
  obtain ⟨ka, kp, ra, rp, ca, cp, oa, op, ya, yp, za, zp, rfl, _, hs, hy0, hz0⟩ := hx.lit
  obtain ⟨ka1, kp1, ra1, rp1, ca1, cp1, oa1, op1, ya1, yp1, za1, zp1, rfl, _, hs1, hy1, hz1⟩ := hy.lit
  have HS : Hid (StmtV w #[.int .i64 t.st.kind, .string t.st.table, .slice ka t.st.key.length kp, .slice ra t.st.row.length rp, .int .i64 t.st.ddl.kind, .string t.st.ddl.table, .slice ca t.st.ddl.cols.length cp, .slice oa t.st.ddl.keys.length op, .string t.st.ddl.name, .string t.st.ddl.to] t.st ∧ StmtV w #[.int .i64 t.st.kind, .string t.st.table, .slice ka1 t.st.key.length kp1, .slice ra1 t.st.row.length rp1, .int .i64 t.st.ddl.kind, .string t.st.ddl.table, .slice ca1 t.st.ddl.cols.length cp1, .slice oa1 t.st.ddl.keys.length op1, .string t.st.ddl.name, .string t.st.ddl.to] t.st) := ⟨hs, hs1⟩
  have HY : Hid (StrsV w (.slice ya t.cols.length yp) t.cols ∧ StrsV w (.slice ya1 t.cols.length yp1) t.cols) := ⟨hy0, hy1⟩
  have HZ : Hid (StrsV w (.slice za t.keys.length zp) t.keys ∧ StrsV w (.slice za1 t.keys.length zp1) t.keys) := ⟨hz0, hz1⟩
  clear hs hs1 hy0 hy1 hz0 hz1 hx hy
  have HL := Loc.new w #[.int .i64 t.st.kind, .string t.st.table, .slice ka t.st.key.length kp, .slice ra t.st.row.length rp, .int .i64 t.st.ddl.kind, .string t.st.ddl.table, .slice ca t.st.ddl.cols.length cp, .slice oa t.st.ddl.keys.length op, .string t.st.ddl.name, .string t.st.ddl.to, .slice ya t.cols.length yp, .slice za t.keys.length zp] 71
  have HM := Loc.new (w.alloc (.cells #[.int .i64 t.st.kind, .string t.st.table, .slice ka t.st.key.length kp, .slice ra t.st.row.length rp, .int .i64 t.st.ddl.kind, .string t.st.ddl.table, .slice ca t.st.ddl.cols.length cp, .slice oa t.st.ddl.keys.length op, .string t.st.ddl.name, .string t.st.ddl.to, .slice ya t.cols.length yp, .slice za t.keys.length zp] 71)) #[.int .i64 t.st.kind, .string t.st.table, .slice ka1 t.st.key.length kp1, .slice ra1 t.st.row.length rp1, .int .i64 t.st.ddl.kind, .string t.st.ddl.table, .slice ca1 t.st.ddl.cols.length cp1, .slice oa1 t.st.ddl.keys.length op1, .string t.st.ddl.name, .string t.st.ddl.to, .slice ya1 t.cols.length yp1, .slice za1 t.keys.length zp1] 71
  rw [show (w.alloc (.cells #[.int .i64 t.st.kind, .string t.st.table, .slice ka t.st.key.length kp, .slice ra t.st.row.length rp, .int .i64 t.st.ddl.kind, .string t.st.ddl.table, .slice ca t.st.ddl.cols.length cp, .slice oa t.st.ddl.keys.length op, .string t.st.ddl.name, .string t.st.ddl.to, .slice ya t.cols.length yp, .slice za t.keys.length zp] 71)).heap.size = w.heap.size + 1 from by simp] at HM
  go_enter Try.func68, Try.ntmps68
  go_wp2_with fail
  refine (eqStmt_same _ _ t.st _ (HS.out.1.on (by repeat (first | with_reducible exact Below.refl _ _ | with_reducible assumption | with_reducible refine ch_alloc ?_ _ | with_reducible refine Below.drew ?_ | with_reducible refine below_draws _ ?_ | (with_reducible refine Below.setCell ?_ ?_ _; rotate_left; focus (first | with_reducible exact Nat.le_refl _ | (simp; done) | (simp; omega) | (simp at *; omega))) | with_reducible refine ch_trans ?_ (by with_reducible assumption)))) (HS.out.2.on (by repeat (first | with_reducible exact Below.refl _ _ | with_reducible assumption | with_reducible refine ch_alloc ?_ _ | with_reducible refine Below.drew ?_ | with_reducible refine below_draws _ ?_ | (with_reducible refine Below.setCell ?_ ?_ _; rotate_left; focus (first | with_reducible exact Nat.le_refl _ | (simp; done) | (simp; omega) | (simp at *; omega))) | with_reducible refine ch_trans ?_ (by with_reducible assumption))))).mono ?_
  rintro e w1 ⟨rfl, b1⟩
  have HL1 := HL.on (w' := w1) (by repeat (first | with_reducible exact Below.refl _ _ | with_reducible assumption | with_reducible refine ch_alloc ?_ _ | with_reducible refine Below.drew ?_ | with_reducible refine below_draws _ ?_ | (with_reducible refine Below.setCell ?_ ?_ _; rotate_left; focus (first | with_reducible exact Nat.le_refl _ | (simp; done) | (simp; omega) | (simp at *; omega))) | with_reducible refine ch_trans ?_ (by with_reducible assumption)))
  have HM1 := HM.on (w' := w1) (by repeat (first | with_reducible exact Below.refl _ _ | with_reducible assumption | with_reducible refine ch_alloc ?_ _ | with_reducible refine Below.drew ?_ | with_reducible refine below_draws _ ?_ | (with_reducible refine Below.setCell ?_ ?_ _; rotate_left; focus (first | with_reducible exact Nat.le_refl _ | (simp; done) | (simp; omega) | (simp at *; omega))) | with_reducible refine ch_trans ?_ (by with_reducible assumption)))
  have hb1 : Below w.heap.size w w1 := (by repeat (first | with_reducible exact Below.refl _ _ | with_reducible assumption | with_reducible refine ch_alloc ?_ _ | with_reducible refine Below.drew ?_ | with_reducible refine below_draws _ ?_ | (with_reducible refine Below.setCell ?_ ?_ _; rotate_left; focus (first | with_reducible exact Nat.le_refl _ | (simp; done) | (simp; omega) | (simp at *; omega))) | with_reducible refine ch_trans ?_ (by with_reducible assumption)))
  clear b1 HL HM
  obtain ⟨c0, c1, c2, c3, c4, c5, c6, c7, c8, c9, c10, c11⟩ := HL1.twelve
  obtain ⟨d0, d1, d2, d3, d4, d5, d6, d7, d8, d9, d10, d11⟩ := HM1.twelve
  go_wp2_with fail
  refine (eqStringS_same _ _ t.cols _ (HY.out.1.on (by repeat (first | with_reducible exact Below.refl _ _ | with_reducible assumption | with_reducible refine ch_alloc ?_ _ | with_reducible refine Below.drew ?_ | with_reducible refine below_draws _ ?_ | (with_reducible refine Below.setCell ?_ ?_ _; rotate_left; focus (first | with_reducible exact Nat.le_refl _ | (simp; done) | (simp; omega) | (simp at *; omega))) | with_reducible refine ch_trans ?_ (by with_reducible assumption)))) (HY.out.2.on (by repeat (first | with_reducible exact Below.refl _ _ | with_reducible assumption | with_reducible refine ch_alloc ?_ _ | with_reducible refine Below.drew ?_ | with_reducible refine below_draws _ ?_ | (with_reducible refine Below.setCell ?_ ?_ _; rotate_left; focus (first | with_reducible exact Nat.le_refl _ | (simp; done) | (simp; omega) | (simp at *; omega))) | with_reducible refine ch_trans ?_ (by with_reducible assumption))))).mono ?_
  rintro e w2 ⟨rfl, b2⟩
  have HL2 := HL1.on (w' := w2) (by repeat (first | with_reducible exact Below.refl _ _ | with_reducible assumption | with_reducible refine ch_alloc ?_ _ | with_reducible refine Below.drew ?_ | with_reducible refine below_draws _ ?_ | (with_reducible refine Below.setCell ?_ ?_ _; rotate_left; focus (first | with_reducible exact Nat.le_refl _ | (simp; done) | (simp; omega) | (simp at *; omega))) | with_reducible refine ch_trans ?_ (by with_reducible assumption)))
  have HM2 := HM1.on (w' := w2) (by repeat (first | with_reducible exact Below.refl _ _ | with_reducible assumption | with_reducible refine ch_alloc ?_ _ | with_reducible refine Below.drew ?_ | with_reducible refine below_draws _ ?_ | (with_reducible refine Below.setCell ?_ ?_ _; rotate_left; focus (first | with_reducible exact Nat.le_refl _ | (simp; done) | (simp; omega) | (simp at *; omega))) | with_reducible refine ch_trans ?_ (by with_reducible assumption)))
  have hb2 : Below w.heap.size w w2 := (by repeat (first | with_reducible exact Below.refl _ _ | with_reducible assumption | with_reducible refine ch_alloc ?_ _ | with_reducible refine Below.drew ?_ | with_reducible refine below_draws _ ?_ | (with_reducible refine Below.setCell ?_ ?_ _; rotate_left; focus (first | with_reducible exact Nat.le_refl _ | (simp; done) | (simp; omega) | (simp at *; omega))) | with_reducible refine ch_trans ?_ (by with_reducible assumption)))
  clear c0 c1 c2 c3 c4 c5 c6 c7 c8 c9 c10 c11 d0 d1 d2 d3 d4 d5 d6 d7 d8 d9 d10 d11 b2 hb1 HL1 HM1
  obtain ⟨c0, c1, c2, c3, c4, c5, c6, c7, c8, c9, c10, c11⟩ := HL2.twelve
  obtain ⟨d0, d1, d2, d3, d4, d5, d6, d7, d8, d9, d10, d11⟩ := HM2.twelve
  go_wp2_with fail
  refine (eqStringS_same _ _ t.keys _ (HZ.out.1.on (by repeat (first | with_reducible exact Below.refl _ _ | with_reducible assumption | with_reducible refine ch_alloc ?_ _ | with_reducible refine Below.drew ?_ | with_reducible refine below_draws _ ?_ | (with_reducible refine Below.setCell ?_ ?_ _; rotate_left; focus (first | with_reducible exact Nat.le_refl _ | (simp; done) | (simp; omega) | (simp at *; omega))) | with_reducible refine ch_trans ?_ (by with_reducible assumption)))) (HZ.out.2.on (by repeat (first | with_reducible exact Below.refl _ _ | with_reducible assumption | with_reducible refine ch_alloc ?_ _ | with_reducible refine Below.drew ?_ | with_reducible refine below_draws _ ?_ | (with_reducible refine Below.setCell ?_ ?_ _; rotate_left; focus (first | with_reducible exact Nat.le_refl _ | (simp; done) | (simp; omega) | (simp at *; omega))) | with_reducible refine ch_trans ?_ (by with_reducible assumption))))).mono ?_
  rintro e w3 ⟨rfl, b3⟩
  go_wp2
  go_ret
  exact ⟨rfl, (by repeat (first | with_reducible exact Below.refl _ _ | with_reducible assumption | with_reducible refine ch_alloc ?_ _ | with_reducible refine Below.drew ?_ | with_reducible refine below_draws _ ?_ | (with_reducible refine Below.setCell ?_ ?_ _; rotate_left; focus (first | with_reducible exact Nat.le_refl _ | (simp; done) | (simp; omega) | (simp at *; omega))) | with_reducible refine ch_trans ?_ (by with_reducible assumption)))⟩

/-- Parts behind a slice. -/
def PartsV (w : World) (v : Value) (ts : List Ptc) : Prop := ∃ a cap xs, v = .slice a ts.length cap ∧ ts.length ≤ cap ∧ cap ≤ maxLen ∧ RowAt w a 12 xs ∧ xs.length = ts.length ∧ ∀ i (h : i < xs.length) (g : i < ts.length), PartV w xs[i] ts[i]
theorem PartsV.on {w w' : World} {v : Value} {ts : List Ptc} (h : PartsV w v ts) (b : Below w.heap.size w w') : PartsV w' v ts := by
  obtain ⟨a, cap, xs, e, h1, h2, h3, h4, h5⟩ := h; exact ⟨a, cap, xs, e, h1, h2, h3.on b, h4, fun i h g => (h5 i h g).on b⟩
theorem PartsV.lit {w : World} {v : Value} {ts : List Ptc} (h : PartsV w v ts) : ∃ a cap, v = .slice a ts.length cap ∧ ts.length ≤ cap ∧ cap ≤ maxLen ∧ PartsV w (.slice a ts.length cap) ts := by
  obtain ⟨a, cap, xs, rfl, h1, h2, h3⟩ := h; exact ⟨a, cap, rfl, h1, h2, a, cap, xs, rfl, h1, h2, h3⟩
theorem PartsV.part {w : World} {a : Option Addr} {n cap : Nat} {ts : List Ptc} (h : PartsV w (.slice a n cap) ts) (k : Nat) (hk : k < ts.length) : ∃ b off ka kp ra rp ca cp oa op ya yp za zp, a = some ⟨b, off, none⟩ ∧ PartV w #[.int .i64 ts[k].st.kind, .string ts[k].st.table, .slice ka ts[k].st.key.length kp, .slice ra ts[k].st.row.length rp, .int .i64 ts[k].st.ddl.kind, .string ts[k].st.ddl.table, .slice ca ts[k].st.ddl.cols.length cp, .slice oa ts[k].st.ddl.keys.length op, .string ts[k].st.ddl.name, .string ts[k].st.ddl.to, .slice ya ts[k].cols.length yp, .slice za ts[k].keys.length zp] ts[k] ∧
    w.cell? ⟨b, off + k * 12, none⟩ = some (.int .i64 ts[k].st.kind) ∧ w.cell? ⟨b, off + k * 12 + 1, none⟩ = some (.string ts[k].st.table) ∧ w.cell? ⟨b, off + k * 12 + 2, none⟩ = some (.slice ka ts[k].st.key.length kp) ∧ w.cell? ⟨b, off + k * 12 + 3, none⟩ = some (.slice ra ts[k].st.row.length rp) ∧ w.cell? ⟨b, off + k * 12 + 4, none⟩ = some (.int .i64 ts[k].st.ddl.kind) ∧ w.cell? ⟨b, off + k * 12 + 5, none⟩ = some (.string ts[k].st.ddl.table) ∧ w.cell? ⟨b, off + k * 12 + 6, none⟩ = some (.slice ca ts[k].st.ddl.cols.length cp) ∧ w.cell? ⟨b, off + k * 12 + 7, none⟩ = some (.slice oa ts[k].st.ddl.keys.length op) ∧ w.cell? ⟨b, off + k * 12 + 8, none⟩ = some (.string ts[k].st.ddl.name) ∧ w.cell? ⟨b, off + k * 12 + 9, none⟩ = some (.string ts[k].st.ddl.to) ∧ w.cell? ⟨b, off + k * 12 + 10, none⟩ = some (.slice ya ts[k].cols.length yp) ∧ w.cell? ⟨b, off + k * 12 + 11, none⟩ = some (.slice za ts[k].keys.length zp) := by
  obtain ⟨a', cap', xs, e, h1, h2, h3, h4, h5⟩ := h
  cases e
  rcases h3.2 with h0 | ⟨b, off, ha, h⟩
  · subst h0; simp at h4; omega
  · obtain ⟨ka, kp, ra, rp, ca, cp, oa, op, ya, yp, za, zp, ex, hx, _⟩ := (h5 k (by omega) hk).lit
    have e0 := h k (by omega) 0 (by omega)
    have e1 := h k (by omega) 1 (by omega)
    have e2 := h k (by omega) 2 (by omega)
    have e3 := h k (by omega) 3 (by omega)
    have e4 := h k (by omega) 4 (by omega)
    have e5 := h k (by omega) 5 (by omega)
    have e6 := h k (by omega) 6 (by omega)
    have e7 := h k (by omega) 7 (by omega)
    have e8 := h k (by omega) 8 (by omega)
    have e9 := h k (by omega) 9 (by omega)
    have e10 := h k (by omega) 10 (by omega)
    have e11 := h k (by omega) 11 (by omega)
    rw [ex] at e0 e1 e2 e3 e4 e5 e6 e7 e8 e9 e10 e11
    exact ⟨b, off, ka, kp, ra, rp, ca, cp, oa, op, ya, yp, za, zp, ha, hx, e0, e1, e2, e3, e4, e5, e6, e7, e8, e9, e10, e11⟩
def pfits (ts : List Ptc) : Prop := ∀ t ∈ ts, t.fit
def pfews (ts : List Ptc) : Prop := ts.length ≤ 1048576 ∧ ∀ t ∈ ts, t.few

set_option maxRecDepth 100000 in
set_option maxHeartbeats 1000000 in
/-- laws.szPartS -/
theorem szPartS_any (v : Value) (ts : List Ptc) (l : Int) (w : World) (hx : PartsV w v ts) (hf : pfits ts) (h0 : 0 ≤ l) (h1 : l ≤ 1048576) :
    Calls Try.prog 27 #[v, .int .i64 l] w fun e w' => ∃ r : Int, e = .returned (.int .i64 r) ∧ Below w.heap.size w w' ∧ (r = -1 ∨ (0 ≤ r ∧ r ≤ l ∧ pfews ts)) := by
  obtain ⟨a, cap, rfl, hl, hm, hx⟩ := hx.lit
  unfold maxLen at hm
  have HX : Hid (PartsV w (.slice a ts.length cap) ts) := hx
  have HF : Hid (pfits ts) := hf
  clear hx hf
  by_cases hn : l < ts.length
  · go_enter Try.func27, Try.ntmps27
    go_wp2
    go_ret
    exact ⟨_, rfl, (by repeat (first | with_reducible exact Below.refl _ _ | with_reducible assumption | with_reducible refine ch_alloc ?_ _ | with_reducible refine Below.drew ?_ | with_reducible refine below_draws _ ?_ | (with_reducible refine Below.setCell ?_ ?_ _; rotate_left; focus (first | with_reducible exact Nat.le_refl _ | (simp; done) | (simp; omega) | (simp at *; omega))) | with_reducible refine ch_trans ?_ (by with_reducible assumption))), Or.inl rfl⟩
  have hn' : ts.length ≤ 1048576 := by omega
  go_enter Try.func27, Try.ntmps27
  go_wp2
  go_loopw [1, 5] (fun b i wr => ∃ (k : Nat) (r : Int), k ≤ ts.length ∧ i = .int .i64 k ∧ b = .int .i64 r ∧ 0 ≤ r ∧ r ≤ l ∧ Below w.heap.size w wr ∧ Hid (∀ i (h : i < ts.length), i < k → ts[i].few)) (fun _ i _ => ts.length - (intOf i).toNat)
  case atStart => exact ⟨0, _, Nat.zero_le _, rfl, rfl, by omega, by omega, (by repeat (first | with_reducible exact Below.refl _ _ | with_reducible assumption | with_reducible refine ch_alloc ?_ _ | with_reducible refine Below.drew ?_ | with_reducible refine below_draws _ ?_ | (with_reducible refine Below.setCell ?_ ?_ _; rotate_left; focus (first | with_reducible exact Nat.le_refl _ | (simp; done) | (simp; omega) | (simp at *; omega))) | with_reducible refine ch_trans ?_ (by with_reducible assumption))), fun i h hi => by omega⟩
  case round =>
    obtain ⟨k, r, hk, rfl, rfl, hr0, hr1, hb, HN⟩ := hrel
    by_cases hlt : k < ts.length
    · have hlti : (k : Int) < ts.length := by omega
      obtain ⟨b, off, ka, kp, ra, rp, ca, cp, oa, op, ya, yp, za, zp, rfl, hx, d0, d1, d2, d3, d4, d5, d6, d7, d8, d9, d10, d11⟩ := (HX.out.on hb).part k hlt
      have HY : Hid (PartV wr #[.int .i64 ts[k].st.kind, .string ts[k].st.table, .slice ka ts[k].st.key.length kp, .slice ra ts[k].st.row.length rp, .int .i64 ts[k].st.ddl.kind, .string ts[k].st.ddl.table, .slice ca ts[k].st.ddl.cols.length cp, .slice oa ts[k].st.ddl.keys.length op, .string ts[k].st.ddl.name, .string ts[k].st.ddl.to, .slice ya ts[k].cols.length yp, .slice za ts[k].keys.length zp] ts[k]) := hx
      clear hx
      go_wp2_with fail
      refine (szPart_any _ ts[k] r _ (HY.out.on (by repeat (first | with_reducible exact Below.refl _ _ | with_reducible assumption | with_reducible refine ch_alloc ?_ _ | with_reducible refine Below.drew ?_ | with_reducible refine below_draws _ ?_ | (with_reducible refine Below.setCell ?_ ?_ _; rotate_left; focus (first | with_reducible exact Nat.le_refl _ | (simp; done) | (simp; omega) | (simp at *; omega))) | with_reducible refine ch_trans ?_ (by with_reducible assumption)))) (HF.out _ (List.getElem_mem hlt)) hr0 (by omega)).mono ?_
      rintro e w1 ⟨q, rfl, b1, hq⟩
      rcases hq with rfl | ⟨q0, q1, q2⟩
      · go_wp2
        go_ret
        exact ⟨_, rfl, (by repeat (first | with_reducible exact Below.refl _ _ | with_reducible assumption | with_reducible refine ch_alloc ?_ _ | with_reducible refine Below.drew ?_ | with_reducible refine below_draws _ ?_ | (with_reducible refine Below.setCell ?_ ?_ _; rotate_left; focus (first | with_reducible exact Nat.le_refl _ | (simp; done) | (simp; omega) | (simp at *; omega))) | with_reducible refine ch_trans ?_ (by with_reducible assumption))), Or.inl rfl⟩
      · have HN' : Hid (∀ i (h : i < ts.length), i < k + 1 → ts[i].few) := fun i h hi => by
          by_cases e : i = k
          · subst e; exact q2
          · exact HN.out i h (by omega)
        clear q2
        go_wp2
        go_round
        case rel => exact ⟨k + 1, q, by omega, by go_num, rfl, q0, by omega, (by repeat (first | with_reducible exact Below.refl _ _ | with_reducible assumption | with_reducible refine ch_alloc ?_ _ | with_reducible refine Below.drew ?_ | with_reducible refine below_draws _ ?_ | (with_reducible refine Below.setCell ?_ ?_ _; rotate_left; focus (first | with_reducible exact Nat.le_refl _ | (simp; done) | (simp; omega) | (simp at *; omega))) | with_reducible refine ch_trans ?_ (by with_reducible assumption))), HN'⟩
        case measure => simp [intOf]; omega
    · have hlti : (ts.length : Int) ≤ k := by omega
      have HG : Hid (pfews ts) := ⟨hn', fun t ht => by
        obtain ⟨i, hi, rfl⟩ := List.getElem_of_mem ht
        exact HN.out i hi (by omega)⟩
      go_wp2
      go_ret
      exact ⟨_, rfl, (by repeat (first | with_reducible exact Below.refl _ _ | with_reducible assumption | with_reducible refine ch_alloc ?_ _ | with_reducible refine Below.drew ?_ | with_reducible refine below_draws _ ?_ | (with_reducible refine Below.setCell ?_ ?_ _; rotate_left; focus (first | with_reducible exact Nat.le_refl _ | (simp; done) | (simp; omega) | (simp at *; omega))) | with_reducible refine ch_trans ?_ (by with_reducible assumption))), Or.inr ⟨hr0, hr1, HG.out⟩⟩

set_option maxRecDepth 100000 in
set_option maxHeartbeats 1000000 in
/-- laws.eqPartS -/
theorem eqPartS_same (av bv : Value) (ts : List Ptc) (w : World) (ha : PartsV w av ts) (hb : PartsV w bv ts) : Calls Try.prog 33 #[av, bv] w fun e w' => e = .returned (.bool true) ∧ Below w.heap.size w w' := by
  obtain ⟨a, cap, rfl, hl, hm, ha⟩ := ha.lit
  obtain ⟨a', cap', rfl, hl', hm', hb⟩ := hb.lit
  unfold maxLen at hm
  have HC : Hid (PartsV w (.slice a ts.length cap) ts) := ha
  have HC' : Hid (PartsV w (.slice a' ts.length cap') ts) := hb
  clear ha hb hm' hl'
  go_enter Try.func33, Try.ntmps33
  go_wp2
  go_loopw [5] (fun i wr => ∃ k : Nat, k ≤ ts.length ∧ i = .int .i64 k ∧ Below w.heap.size w wr) (fun i _ => ts.length - (intOf i).toNat)
  case atStart => exact ⟨0, Nat.zero_le _, rfl, (by repeat (first | with_reducible exact Below.refl _ _ | with_reducible assumption | with_reducible refine ch_alloc ?_ _ | with_reducible refine Below.drew ?_ | with_reducible refine below_draws _ ?_ | (with_reducible refine Below.setCell ?_ ?_ _; rotate_left; focus (first | with_reducible exact Nat.le_refl _ | (simp; done) | (simp; omega) | (simp at *; omega))) | with_reducible refine ch_trans ?_ (by with_reducible assumption)))⟩
  case round =>
    obtain ⟨k, hk, rfl, hb⟩ := hrel
    by_cases hlt : k < ts.length
    · have hlti : (k : Int) < ts.length := by omega
      obtain ⟨b, off, ka, kp, ra, rp, ca, cp, oa, op, ya, yp, za, zp, rfl, hx, d0, d1, d2, d3, d4, d5, d6, d7, d8, d9, d10, d11⟩ := (HC.out.on hb).part k hlt
      obtain ⟨b', off', ka1, kp1, ra1, rp1, ca1, cp1, oa1, op1, ya1, yp1, za1, zp1, rfl, hx', g0, g1, g2, g3, g4, g5, g6, g7, g8, g9, g10, g11⟩ := (HC'.out.on hb).part k hlt
      have HY : Hid (PartV wr #[.int .i64 ts[k].st.kind, .string ts[k].st.table, .slice ka ts[k].st.key.length kp, .slice ra ts[k].st.row.length rp, .int .i64 ts[k].st.ddl.kind, .string ts[k].st.ddl.table, .slice ca ts[k].st.ddl.cols.length cp, .slice oa ts[k].st.ddl.keys.length op, .string ts[k].st.ddl.name, .string ts[k].st.ddl.to, .slice ya ts[k].cols.length yp, .slice za ts[k].keys.length zp] ts[k]) := hx
      have HY' : Hid (PartV wr #[.int .i64 ts[k].st.kind, .string ts[k].st.table, .slice ka1 ts[k].st.key.length kp1, .slice ra1 ts[k].st.row.length rp1, .int .i64 ts[k].st.ddl.kind, .string ts[k].st.ddl.table, .slice ca1 ts[k].st.ddl.cols.length cp1, .slice oa1 ts[k].st.ddl.keys.length op1, .string ts[k].st.ddl.name, .string ts[k].st.ddl.to, .slice ya1 ts[k].cols.length yp1, .slice za1 ts[k].keys.length zp1] ts[k]) := hx'
      clear hx hx'
      go_wp2_with fail
      go_region_with (go_at_call 68; refine (eqPart_same _ _ ts[k] _ (HY.out.on (by repeat (first | with_reducible exact Below.refl _ _ | with_reducible assumption | with_reducible refine ch_alloc ?_ _ | with_reducible refine Below.drew ?_ | with_reducible refine below_draws _ ?_ | (with_reducible refine Below.setCell ?_ ?_ _; rotate_left; focus (first | with_reducible exact Nat.le_refl _ | (simp; done) | (simp; omega) | (simp at *; omega))) | with_reducible refine ch_trans ?_ (by with_reducible assumption)))) (HY'.out.on (by repeat (first | with_reducible exact Below.refl _ _ | with_reducible assumption | with_reducible refine ch_alloc ?_ _ | with_reducible refine Below.drew ?_ | with_reducible refine below_draws _ ?_ | (with_reducible refine Below.setCell ?_ ?_ _; rotate_left; focus (first | with_reducible exact Nat.le_refl _ | (simp; done) | (simp; omega) | (simp at *; omega))) | with_reducible refine ch_trans ?_ (by with_reducible assumption))))).mono ?_; rintro e w1 ⟨rfl, b1⟩)
      all_goals
        go_wp2
        go_round
        case rel => exact ⟨k + 1, by omega, by go_num, (by repeat (first | with_reducible exact Below.refl _ _ | with_reducible assumption | with_reducible refine ch_alloc ?_ _ | with_reducible refine Below.drew ?_ | with_reducible refine below_draws _ ?_ | (with_reducible refine Below.setCell ?_ ?_ _; rotate_left; focus (first | with_reducible exact Nat.le_refl _ | (simp; done) | (simp; omega) | (simp at *; omega))) | with_reducible refine ch_trans ?_ (by with_reducible assumption)))⟩
        case measure => simp [intOf]; omega
    · have hlti : (ts.length : Int) ≤ k := by omega
      go_wp2
      go_ret
      exact ⟨rfl, (by repeat (first | with_reducible exact Below.refl _ _ | with_reducible assumption | with_reducible refine ch_alloc ?_ _ | with_reducible refine Below.drew ?_ | with_reducible refine below_draws _ ?_ | (with_reducible refine Below.setCell ?_ ?_ _; rotate_left; focus (first | with_reducible exact Nat.le_refl _ | (simp; done) | (simp; omega) | (simp at *; omega))) | with_reducible refine ch_trans ?_ (by with_reducible assumption)))⟩
end Go.Proofs.Ytikccmgpmbnkfaa
