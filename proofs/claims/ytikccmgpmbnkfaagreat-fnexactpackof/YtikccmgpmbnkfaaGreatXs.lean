/- The laws' copies with their shape: changes. The laws' copies with their shape: statements. -/
import Derived.Test.YtikccmgpmbnkfaaGreatSt
import Derived.Test.YtikccmgpmbnkfaaGreatNw
import Derived.Test.YtikccmgpmbnkfaaGreatDd
namespace Go.Proofs.YtikccmgpmbnkfaaGreat
open Go.ChangeShapes Go.WideShapes Go.ChangeAt Go.RowKit

/-- Read as that, and in new memory alone. -/
def ValsN (B : Nat) (w : World) (v : Value) (l : List Vc) : Prop := ValsV w v l ∧ New ValsS B w v
def ColsN (B : Nat) (w : World) (v : Value) (l : List Cl) : Prop := ColsV w v l ∧ New ColsS B w v
def StrsN (B : Nat) (w : World) (v : Value) (l : List ByteArray) : Prop := StrsV w v l ∧ New StrsS B w v
def DdlN (B : Nat) (w : World) (x : Array Value) (d : Dc) : Prop := ∃ cv kv, x = #[.int .i64 d.kind, .string d.table, cv, kv, .string d.name, .string d.to] ∧ ColsN B w cv d.cols ∧ StrsN B w kv d.keys
def StmtN (B : Nat) (w : World) (x : Array Value) (s : Sc) : Prop := ∃ k r c o, x = s.cells k r c o ∧ ValsN B w k s.key ∧ ValsN B w r s.row ∧ ColsN B w c s.ddl.cols ∧ StrsN B w o s.ddl.keys
theorem StmtN.stmt {B : Nat} {w : World} {x : Array Value} {s : Sc} (h : StmtN B w x s) : StmtV w x s := by
  obtain ⟨k, r, c, o, e, h1, h2, h3, h4⟩ := h; exact ⟨k, r, c, o, e, h1.1, h2.1, h3.1, h4.1⟩
theorem DdlN.lit {B : Nat} {w : World} {x : Array Value} {t : Dc} (h : DdlN B w x t) : ∃ a p b q, x = #[.int .i64 t.kind, .string t.table, .slice a t.cols.length p, .slice b t.keys.length q, .string t.name, .string t.to] ∧ DdlN B w #[.int .i64 t.kind, .string t.table, .slice a t.cols.length p, .slice b t.keys.length q, .string t.name, .string t.to] t := by
  obtain ⟨cv, kv, rfl, h1, h2⟩ := h
  obtain ⟨a, p, rfl, _⟩ := id h1.1
  obtain ⟨b, q, rfl, _⟩ := id h2.1
  exact ⟨a, p, b, q, rfl, _, _, rfl, h1, h2⟩
theorem Fill.firmCols {w : World} {B : Nat} {cs : List Cl} (h : Fill w B 131 7 cs.length (cs.map Cl.cells)) (hl : cs.length ≤ 1048576) {b : Nat} (hb : b ≤ B) : Firm B (fun u => ColsN b u (.slice (some ⟨B, 0, none⟩) cs.length cs.length) cs) w :=
  (h.firm (Nat.le_refl _)).imp fun u hu => ⟨hu.colsV (by unfold maxLen; omega), (hu.colsN hl).mono ColsS.good hb⟩
theorem Fill.firmStrs {w : World} {B : Nat} {cs : List ByteArray} (h : Fill w B 9 1 cs.length (cs.map strX)) (hl : cs.length ≤ 1048576) {b : Nat} (hb : b ≤ B) : Firm B (fun u => StrsN b u (.slice (some ⟨B, 0, none⟩) cs.length cs.length) cs) w :=
  (h.firm (Nat.le_refl _)).imp fun u hu => ⟨hu.strsV (by unfold maxLen; omega), (hu.strsN hl).mono StrsS.good hb⟩
theorem Fill.firmVals {w : World} {B : Nat} {cs : List Vc} (h : Fill w B 128 3 cs.length (cs.map Vc.cells)) (hl : cs.length ≤ 1048576) {b : Nat} (hb : b ≤ B) : Firm B (fun u => ValsN b u (.slice (some ⟨B, 0, none⟩) cs.length cs.length) cs) w :=
  (h.firm (Nat.le_refl _)).imp fun u hu => ⟨hu.valsV (by unfold maxLen; omega), (hu.valsN hl).mono ValsS.good hb⟩

set_option maxRecDepth 100000 in
set_option maxHeartbeats 2000000 in
/-- laws.toDdl -/
theorem toDdl_full (x : Array Value) (t : Dc) (w : World) (hx : DdlV w x t) (hf : t.few) :
    Calls Tryz.prog 132 #[.agg x] w fun e w' => ∃ y, e = .returned (.agg y) ∧ Below w.heap.size w w' ∧ Firm w.heap.size (fun u => DdlN w.heap.size u y t) w' := by
  obtain ⟨cv, kv, rfl, hc, hk⟩ := hx
  obtain ⟨kind, table, cs, ks, name, to⟩ := t
  obtain ⟨hfc, hfk⟩ := hf
  simp only at hfc hfk hc hk
  have HC : Hid (ColsV w cv cs) := hc
  have HK : Hid (StrsV w kv ks) := hk
  have HL := Loc.new w #[.int .i64 kind, .string table, cv, kv, .string name, .string to] 103
  clear hc hk
  go_enter Tryz.func132, Tryz.ntmps132
  go_wp2_with fail
  have hb0 : Below w.heap.size w (((w.alloc (.cells #[.int .i64 kind, .string table, cv, kv, .string name, .string to] 103)).alloc (.cells #[.int .i64 0, .string { data := #[] }, .slice none 0 0, .slice none 0 0, .string { data := #[] }, .string { data := #[] }] 46)).alloc (.cells #[.int .i64 kind, .string table, .slice none 0 0, .slice none 0 0, .string { data := #[] }, .string { data := #[] }] 46)) := (by repeat (first | with_reducible exact Below.refl _ _ | with_reducible assumption | with_reducible refine ch_alloc ?_ _ | with_reducible refine Below.drew ?_ | with_reducible refine below_draws _ ?_ | (with_reducible refine Below.setCell ?_ ?_ _; rotate_left; focus (first | with_reducible exact Nat.le_refl _ | (simp; done) | (simp; omega) | (simp at *; omega))) | with_reducible refine ch_trans ?_ (by with_reducible assumption)))
  have HQ := Own.at (w.alloc (.cells #[.int .i64 kind, .string table, cv, kv, .string name, .string to] 103)) 46 #[.int .i64 0, .string { data := #[] }, .slice none 0 0, .slice none 0 0, .string { data := #[] }, .string { data := #[] }] (n := w.heap.size + 1) (by simp)
  have HO := Own.at ((w.alloc (.cells #[.int .i64 kind, .string table, cv, kv, .string name, .string to] 103)).alloc (.cells #[.int .i64 0, .string { data := #[] }, .slice none 0 0, .slice none 0 0, .string { data := #[] }, .string { data := #[] }] 46)) 46 #[.int .i64 kind, .string table, .slice none 0 0, .slice none 0 0, .string { data := #[] }, .string { data := #[] }] (n := w.heap.size + 1 + 1) (by simp)
  have HQ0 := HQ.on (ch_alloc (Below.refl _ _) (.cells #[.int .i64 kind, .string table, .slice none 0 0, .slice none 0 0, .string { data := #[] }, .string { data := #[] }] 46))
  have HL0 := (HL.on1 (.cells #[.int .i64 0, .string { data := #[] }, .slice none 0 0, .slice none 0 0, .string { data := #[] }, .string { data := #[] }] 46)).on1 (.cells #[.int .i64 kind, .string table, .slice none 0 0, .slice none 0 0, .string { data := #[] }, .string { data := #[] }] 46)
  have hs0 : w.heap.size + 1 + 1 + 1 ≤ ((((w.alloc (.cells #[.int .i64 kind, .string table, cv, kv, .string name, .string to] 103)).alloc (.cells #[.int .i64 0, .string { data := #[] }, .slice none 0 0, .slice none 0 0, .string { data := #[] }, .string { data := #[] }] 46)).alloc (.cells #[.int .i64 kind, .string table, .slice none 0 0, .slice none 0 0, .string { data := #[] }, .string { data := #[] }] 46))).heap.size := by simp
  clear HL HQ
  generalize (((w.alloc (.cells #[.int .i64 kind, .string table, cv, kv, .string name, .string to] 103)).alloc (.cells #[.int .i64 0, .string { data := #[] }, .slice none 0 0, .slice none 0 0, .string { data := #[] }, .string { data := #[] }] 46)).alloc (.cells #[.int .i64 kind, .string table, .slice none 0 0, .slice none 0 0, .string { data := #[] }, .string { data := #[] }] 46)) = u0 at hb0 HO HQ0 HL0 hs0 ⊢
  refine (toColS_full cv cs _ (HC.out.on hb0) hfc).mono ?_
  rintro e w1 ⟨rfl, b1, hy⟩
  have HY : Hid (Firm (w.heap.size + 1 + 1 + 1) (fun u => ColsN w.heap.size u (.slice (some ⟨u0.heap.size, 0, none⟩) cs.length cs.length) cs) w1) := (hy.firmCols hfc (by omega)).mono hs0
  have hb1 := ch_trans hb0 b1
  have HO1 := HO.on b1
  have HQ1 := HQ0.on b1
  have HL1 := HL0.on b1
  have hs1 : w.heap.size + 1 + 1 + 1 ≤ w1.heap.size := by have := b1.size; omega
  generalize u0.heap.size = B1 at HY ⊢
  clear hy hb0 b1 HO HQ0 HL0 hs0
  obtain ⟨c0, c1, c2, c3, c4, c5⟩ := HL1.six
  obtain ⟨d0, d1, d2, d3, d4, d5⟩ := HO1.loc.six
  have f2 := HO1.frozen 2
  go_wp2_with fail
  have HO2 := HO1.set 2 (.slice (some ⟨B1, 0, none⟩) cs.length cs.length)
  have HQ2 := HQ1.other (p := ⟨w.heap.size + 1 + 1, 2, none⟩) (by simp) (.slice (some ⟨B1, 0, none⟩) cs.length cs.length)
  have hb2 : Below w.heap.size w (w1.setCell ⟨w.heap.size + 1 + 1, 2, none⟩ (.slice (some ⟨B1, 0, none⟩) cs.length cs.length)) := (by repeat (first | with_reducible exact Below.refl _ _ | with_reducible assumption | with_reducible refine ch_alloc ?_ _ | with_reducible refine Below.drew ?_ | with_reducible refine below_draws _ ?_ | (with_reducible refine Below.setCell ?_ ?_ _; rotate_left; focus (first | with_reducible exact Nat.le_refl _ | (simp; done) | (simp; omega) | (simp at *; omega))) | with_reducible refine ch_trans ?_ (by with_reducible assumption)))
  have HL2 := HL1.other (p := ⟨w.heap.size + 1 + 1, 2, none⟩) (by simp; omega) (.slice (some ⟨B1, 0, none⟩) cs.length cs.length)
  have HY2 : Hid (Firm (w.heap.size + 1 + 1 + 1) (fun u => ColsN w.heap.size u (.slice (some ⟨B1, 0, none⟩) cs.length cs.length) cs) (w1.setCell ⟨w.heap.size + 1 + 1, 2, none⟩ (.slice (some ⟨B1, 0, none⟩) cs.length cs.length))) := HY.out.set (by simp) _
  have hs2 : w.heap.size + 1 + 1 + 1 ≤ (w1.setCell ⟨w.heap.size + 1 + 1, 2, none⟩ (.slice (some ⟨B1, 0, none⟩) cs.length cs.length)).heap.size := by simpa using hs1
  clear HY hs1 HO1 HQ1 HL1 hb1 c0 c1 c2 c3 c4 c5 d0 d1 d2 d3 d4 d5 f2
  generalize (w1.setCell ⟨w.heap.size + 1 + 1, 2, none⟩ (.slice (some ⟨B1, 0, none⟩) cs.length cs.length)) = u1 at HO2 HQ2 hb2 HL2 HY2 hs2 ⊢
  refine (toStringS_full kv ks _ (HK.out.on hb2) hfk).mono ?_
  rintro e w2 ⟨rfl, b2, hy⟩
  have HZ : Hid (Firm (w.heap.size + 1 + 1 + 1) (fun u => StrsN w.heap.size u (.slice (some ⟨u1.heap.size, 0, none⟩) ks.length ks.length) ks) w2) := (hy.firmStrs hfk (by omega)).mono hs2
  have HF6 : Hid (Firm (w.heap.size + 1 + 1 + 1) (fun u => DdlN w.heap.size u #[.int .i64 kind, .string table, .slice (some ⟨B1, 0, none⟩) cs.length cs.length, .slice (some ⟨u1.heap.size, 0, none⟩) ks.length ks.length, .string name, .string to] ⟨kind, table, cs, ks, name, to⟩) w2) := ((HY2.out.on b2).and HZ.out).imp fun u ⟨h1, h2⟩ => ⟨_, _, rfl, h1, h2⟩
  have hb3 := ch_trans hb2 b2
  have HO3 := HO2.on b2
  have HQ3 := HQ2.on b2
  have HL3 := HL2.on b2
  generalize u1.heap.size = B2 at HF6 ⊢
  clear hy b2 HO2 HQ2 HL2 hb2 hs2 HY2 HZ
  obtain ⟨c0, c1, c2, c3, c4, c5⟩ := HL3.six
  obtain ⟨d0, d1, d2, d3, d4, d5⟩ := HO3.loc.six
  have f3 := HO3.frozen 3
  have f4 := HO3.frozen 4
  have f5 := HO3.frozen 5
  obtain ⟨g0, g1, g2, g3, g4, g5⟩ := HQ3.loc.six
  have i0 := HQ3.frozen 0
  have i1 := HQ3.frozen 1
  have i2 := HQ3.frozen 2
  have i3 := HQ3.frozen 3
  have i4 := HQ3.frozen 4
  have i5 := HQ3.frozen 5
  go_wp2
  have HQ4 : Own (((((((((w2.setCell ⟨w.heap.size + 1 + 1, 3, none⟩ (.slice (some ⟨B2, 0, none⟩) ks.length ks.length)).setCell ⟨w.heap.size + 1 + 1, 4, none⟩ (.string name)).setCell ⟨w.heap.size + 1 + 1, 5, none⟩ (.string to)).setCell ⟨w.heap.size + 1, 0, none⟩ (.int .i64 kind)).setCell ⟨w.heap.size + 1, 1, none⟩ (.string table)).setCell ⟨w.heap.size + 1, 2, none⟩ (.slice (some ⟨B1, 0, none⟩) cs.length cs.length)).setCell ⟨w.heap.size + 1, 3, none⟩ (.slice (some ⟨B2, 0, none⟩) ks.length ks.length)).setCell ⟨w.heap.size + 1, 4, none⟩ (.string name)).setCell ⟨w.heap.size + 1, 5, none⟩ (.string to)) _ _ #[.int .i64 kind, .string table, .slice (some ⟨B1, 0, none⟩) cs.length cs.length, .slice (some ⟨B2, 0, none⟩) ks.length ks.length, .string name, .string to] := (Own.past (c := w.heap.size + 1 + 1) (by omega) [.slice (some ⟨B2, 0, none⟩) ks.length ks.length, .string name, .string to] _ 3 HQ3).fill (old := [_, _, _, _, _, _]) [.int .i64 kind, .string table, .slice (some ⟨B1, 0, none⟩) cs.length cs.length, .slice (some ⟨B2, 0, none⟩) ks.length ks.length, .string name, .string to] rfl
  have HF7 : Hid (Firm (w.heap.size + 1 + 1 + 1) (fun u => DdlN w.heap.size u #[.int .i64 kind, .string table, .slice (some ⟨B1, 0, none⟩) cs.length cs.length, .slice (some ⟨B2, 0, none⟩) ks.length ks.length, .string name, .string to] ⟨kind, table, cs, ks, name, to⟩) (((((((((w2.setCell ⟨w.heap.size + 1 + 1, 3, none⟩ (.slice (some ⟨B2, 0, none⟩) ks.length ks.length)).setCell ⟨w.heap.size + 1 + 1, 4, none⟩ (.string name)).setCell ⟨w.heap.size + 1 + 1, 5, none⟩ (.string to)).setCell ⟨w.heap.size + 1, 0, none⟩ (.int .i64 kind)).setCell ⟨w.heap.size + 1, 1, none⟩ (.string table)).setCell ⟨w.heap.size + 1, 2, none⟩ (.slice (some ⟨B1, 0, none⟩) cs.length cs.length)).setCell ⟨w.heap.size + 1, 3, none⟩ (.slice (some ⟨B2, 0, none⟩) ks.length ks.length)).setCell ⟨w.heap.size + 1, 4, none⟩ (.string name)).setCell ⟨w.heap.size + 1, 5, none⟩ (.string to))) := Firm.stores (b := w.heap.size + 1) (by omega) [.int .i64 kind, .string table, .slice (some ⟨B1, 0, none⟩) cs.length cs.length, .slice (some ⟨B2, 0, none⟩) ks.length ks.length, .string name, .string to] _ 0 (Firm.stores (b := w.heap.size + 1 + 1) (by omega) [.slice (some ⟨B2, 0, none⟩) ks.length ks.length, .string name, .string to] _ 3 HF6.out)
  have HB : Hid (Below w.heap.size w (((((((((w2.setCell ⟨w.heap.size + 1 + 1, 3, none⟩ (.slice (some ⟨B2, 0, none⟩) ks.length ks.length)).setCell ⟨w.heap.size + 1 + 1, 4, none⟩ (.string name)).setCell ⟨w.heap.size + 1 + 1, 5, none⟩ (.string to)).setCell ⟨w.heap.size + 1, 0, none⟩ (.int .i64 kind)).setCell ⟨w.heap.size + 1, 1, none⟩ (.string table)).setCell ⟨w.heap.size + 1, 2, none⟩ (.slice (some ⟨B1, 0, none⟩) cs.length cs.length)).setCell ⟨w.heap.size + 1, 3, none⟩ (.slice (some ⟨B2, 0, none⟩) ks.length ks.length)).setCell ⟨w.heap.size + 1, 4, none⟩ (.string name)).setCell ⟨w.heap.size + 1, 5, none⟩ (.string to))) := by
    show Below _ _ _
    exact stores_below (b := w.heap.size + 1) (by omega) [.int .i64 kind, .string table, .slice (some ⟨B1, 0, none⟩) cs.length cs.length, .slice (some ⟨B2, 0, none⟩) ks.length ks.length, .string name, .string to] _ 0 (stores_below (b := w.heap.size + 1 + 1) (by omega) [.slice (some ⟨B2, 0, none⟩) ks.length ks.length, .string name, .string to] _ 3 hb3)
  generalize (((((((((w2.setCell ⟨w.heap.size + 1 + 1, 3, none⟩ (.slice (some ⟨B2, 0, none⟩) ks.length ks.length)).setCell ⟨w.heap.size + 1 + 1, 4, none⟩ (.string name)).setCell ⟨w.heap.size + 1 + 1, 5, none⟩ (.string to)).setCell ⟨w.heap.size + 1, 0, none⟩ (.int .i64 kind)).setCell ⟨w.heap.size + 1, 1, none⟩ (.string table)).setCell ⟨w.heap.size + 1, 2, none⟩ (.slice (some ⟨B1, 0, none⟩) cs.length cs.length)).setCell ⟨w.heap.size + 1, 3, none⟩ (.slice (some ⟨B2, 0, none⟩) ks.length ks.length)).setCell ⟨w.heap.size + 1, 4, none⟩ (.string name)).setCell ⟨w.heap.size + 1, 5, none⟩ (.string to)) = W at HQ4 HF7 HB ⊢
  obtain ⟨e0, e1, e2, e3, e4, e5⟩ := HQ4.loc.six
  exact bodyPost_ret (v := .agg #[.int .i64 kind, .string table, .slice (some ⟨B1, 0, none⟩) cs.length cs.length, .slice (some ⟨B2, 0, none⟩) ks.length ks.length, .string name, .string to]) (by simp [results, Tryz.results132, go_sem, e0, e1, e2, e3, e4, e5]) rfl ⟨_, rfl, HB.out, HF7.out.mono (by omega)⟩
end Go.Proofs.YtikccmgpmbnkfaaGreat

namespace Go.Proofs.YtikccmgpmbnkfaaGreat
open Go.ChangeShapes Go.WideShapes Go.ChangeAt Go.RowKit

set_option maxRecDepth 100000 in
set_option maxHeartbeats 2000000 in
/-- laws.toStmt -/
theorem toStmt_full (x : Array Value) (t : Sc) (w : World) (hx : StmtV w x t) (hf : t.few) :
    Calls Tryz.prog 105 #[.agg x] w fun e w' => ∃ y, e = .returned (.agg y) ∧ Below w.heap.size w w' ∧ Firm w.heap.size (fun u => StmtN w.heap.size u y t) w' := by
  obtain ⟨ka, kp, ra, rp, ca, cp, oa, op, rfl, hk, hr, hc, ho⟩ := hx.lit
  obtain ⟨hfk, hfr, hfd⟩ := hf
  obtain ⟨kind, table, key, row, ⟨dk, dt, cs, ks, dn, to⟩⟩ := t
  simp only [Sc.cells] at *
  have HK : Hid (ValsV w (.slice ka key.length kp) key) := hk
  have HR : Hid (ValsV w (.slice ra row.length rp) row) := hr
  have HD : Hid (∀ u : World, Below w.heap.size w u → DdlV u #[.int .i64 dk, .string dt, .slice ca cs.length cp, .slice oa ks.length op, .string dn, .string to] ⟨dk, dt, cs, ks, dn, to⟩) := fun u hu => ⟨_, _, rfl, hc.on hu, ho.on hu⟩
  have HF : Hid (Dc.few ⟨dk, dt, cs, ks, dn, to⟩) := hfd
  clear hk hr hc ho hfd hx
  have HL := Loc.new w #[.int .i64 kind, .string table, .slice ka key.length kp, .slice ra row.length rp, .int .i64 dk, .string dt, .slice ca cs.length cp, .slice oa ks.length op, .string dn, .string to] 105
  go_enter Tryz.func105, Tryz.ntmps105
  go_wp2_with fail
  have hb0 : Below w.heap.size w (((w.alloc (.cells #[.int .i64 kind, .string table, .slice ka key.length kp, .slice ra row.length rp, .int .i64 dk, .string dt, .slice ca cs.length cp, .slice oa ks.length op, .string dn, .string to] 105)).alloc (.cells #[.int .i64 0, .string { data := #[] }, .slice none 0 0, .slice none 0 0, .int .i64 0, .string { data := #[] }, .slice none 0 0, .slice none 0 0, .string { data := #[] }, .string { data := #[] }] 48)).alloc (.cells #[.int .i64 kind, .string table, .slice none 0 0, .slice none 0 0, .int .i64 0, .string { data := #[] }, .slice none 0 0, .slice none 0 0, .string { data := #[] }, .string { data := #[] }] 48)) := (by repeat (first | with_reducible exact Below.refl _ _ | with_reducible assumption | with_reducible refine ch_alloc ?_ _ | with_reducible refine Below.drew ?_ | with_reducible refine below_draws _ ?_ | (with_reducible refine Below.setCell ?_ ?_ _; rotate_left; focus (first | with_reducible exact Nat.le_refl _ | (simp; done) | (simp; omega) | (simp at *; omega))) | with_reducible refine ch_trans ?_ (by with_reducible assumption)))
  have HQ := Own.at (w.alloc (.cells #[.int .i64 kind, .string table, .slice ka key.length kp, .slice ra row.length rp, .int .i64 dk, .string dt, .slice ca cs.length cp, .slice oa ks.length op, .string dn, .string to] 105)) 48 #[.int .i64 0, .string { data := #[] }, .slice none 0 0, .slice none 0 0, .int .i64 0, .string { data := #[] }, .slice none 0 0, .slice none 0 0, .string { data := #[] }, .string { data := #[] }] (n := w.heap.size + 1) (by simp)
  have HO := Own.at ((w.alloc (.cells #[.int .i64 kind, .string table, .slice ka key.length kp, .slice ra row.length rp, .int .i64 dk, .string dt, .slice ca cs.length cp, .slice oa ks.length op, .string dn, .string to] 105)).alloc (.cells #[.int .i64 0, .string { data := #[] }, .slice none 0 0, .slice none 0 0, .int .i64 0, .string { data := #[] }, .slice none 0 0, .slice none 0 0, .string { data := #[] }, .string { data := #[] }] 48)) 48 #[.int .i64 kind, .string table, .slice none 0 0, .slice none 0 0, .int .i64 0, .string { data := #[] }, .slice none 0 0, .slice none 0 0, .string { data := #[] }, .string { data := #[] }] (n := w.heap.size + 1 + 1) (by simp)
  have HQ0 := HQ.on (ch_alloc (Below.refl _ _) (.cells #[.int .i64 kind, .string table, .slice none 0 0, .slice none 0 0, .int .i64 0, .string { data := #[] }, .slice none 0 0, .slice none 0 0, .string { data := #[] }, .string { data := #[] }] 48))
  have HL0 := (HL.on1 (.cells #[.int .i64 0, .string { data := #[] }, .slice none 0 0, .slice none 0 0, .int .i64 0, .string { data := #[] }, .slice none 0 0, .slice none 0 0, .string { data := #[] }, .string { data := #[] }] 48)).on1 (.cells #[.int .i64 kind, .string table, .slice none 0 0, .slice none 0 0, .int .i64 0, .string { data := #[] }, .slice none 0 0, .slice none 0 0, .string { data := #[] }, .string { data := #[] }] 48)
  have hs0 : w.heap.size + 1 + 1 + 1 ≤ (((w.alloc (.cells #[.int .i64 kind, .string table, .slice ka key.length kp, .slice ra row.length rp, .int .i64 dk, .string dt, .slice ca cs.length cp, .slice oa ks.length op, .string dn, .string to] 105)).alloc (.cells #[.int .i64 0, .string { data := #[] }, .slice none 0 0, .slice none 0 0, .int .i64 0, .string { data := #[] }, .slice none 0 0, .slice none 0 0, .string { data := #[] }, .string { data := #[] }] 48)).alloc (.cells #[.int .i64 kind, .string table, .slice none 0 0, .slice none 0 0, .int .i64 0, .string { data := #[] }, .slice none 0 0, .slice none 0 0, .string { data := #[] }, .string { data := #[] }] 48)).heap.size := by simp
  clear HL HQ
  generalize ((w.alloc (.cells #[.int .i64 kind, .string table, .slice ka key.length kp, .slice ra row.length rp, .int .i64 dk, .string dt, .slice ca cs.length cp, .slice oa ks.length op, .string dn, .string to] 105)).alloc (.cells #[.int .i64 0, .string { data := #[] }, .slice none 0 0, .slice none 0 0, .int .i64 0, .string { data := #[] }, .slice none 0 0, .slice none 0 0, .string { data := #[] }, .string { data := #[] }] 48)).alloc (.cells #[.int .i64 kind, .string table, .slice none 0 0, .slice none 0 0, .int .i64 0, .string { data := #[] }, .slice none 0 0, .slice none 0 0, .string { data := #[] }, .string { data := #[] }] 48) = u0 at hb0 HO HQ0 HL0 hs0 ⊢
  refine (toValS_any _ key _ (HK.out.on hb0) hfk).mono ?_
  rintro e w1 ⟨rfl, b1, hy⟩
  have HY : Hid (Firm (w.heap.size + 1 + 1 + 1) (fun u => ValsN w.heap.size u (.slice (some ⟨u0.heap.size, 0, none⟩) key.length key.length) key) w1) := (hy.firmVals hfk (by omega)).mono hs0
  have hb1 := ch_trans hb0 b1
  have HO1 := HO.on b1
  have HQ1 := HQ0.on b1
  have HL1 := HL0.on b1
  have hs1 : w.heap.size + 1 + 1 + 1 ≤ w1.heap.size := by have := b1.size; omega
  generalize u0.heap.size = B1 at HY ⊢
  clear hy hb0 b1 HO HQ0 HL0 hs0
  obtain ⟨c0, c1, c2, c3, c4, c5, c6, c7, c8, c9⟩ := HL1.ten
  obtain ⟨d0, d1, d2, d3, d4, d5, d6, d7, d8, d9⟩ := HO1.loc.ten
  have f2 := HO1.frozen 2
  go_wp2_with fail
  have HO2 := HO1.set 2 (.slice (some ⟨B1, 0, none⟩) key.length key.length)
  have HQ2 := HQ1.other (p := ⟨w.heap.size + 1 + 1, 2, none⟩) (by simp) (.slice (some ⟨B1, 0, none⟩) key.length key.length)
  have hb2 : Below w.heap.size w (w1.setCell ⟨w.heap.size + 1 + 1, 2, none⟩ (.slice (some ⟨B1, 0, none⟩) key.length key.length)) := (by repeat (first | with_reducible exact Below.refl _ _ | with_reducible assumption | with_reducible refine ch_alloc ?_ _ | with_reducible refine Below.drew ?_ | with_reducible refine below_draws _ ?_ | (with_reducible refine Below.setCell ?_ ?_ _; rotate_left; focus (first | with_reducible exact Nat.le_refl _ | (simp; done) | (simp; omega) | (simp at *; omega))) | with_reducible refine ch_trans ?_ (by with_reducible assumption)))
  have HL2 := HL1.other (p := ⟨w.heap.size + 1 + 1, 2, none⟩) (by simp; omega) (.slice (some ⟨B1, 0, none⟩) key.length key.length)
  have HY2 : Hid (Firm (w.heap.size + 1 + 1 + 1) (fun u => ValsN w.heap.size u (.slice (some ⟨B1, 0, none⟩) key.length key.length) key) (w1.setCell ⟨w.heap.size + 1 + 1, 2, none⟩ (.slice (some ⟨B1, 0, none⟩) key.length key.length))) := HY.out.set (by simp) _
  have hs2 : w.heap.size + 1 + 1 + 1 ≤ (w1.setCell ⟨w.heap.size + 1 + 1, 2, none⟩ (.slice (some ⟨B1, 0, none⟩) key.length key.length)).heap.size := by simpa using hs1
  clear HY hs1 HO1 HQ1 HL1 hb1 c0 c1 c2 c3 c4 c5 c6 c7 c8 c9 d0 d1 d2 d3 d4 d5 d6 d7 d8 d9 f2
  generalize (w1.setCell ⟨w.heap.size + 1 + 1, 2, none⟩ (.slice (some ⟨B1, 0, none⟩) key.length key.length)) = u1 at HO2 HQ2 hb2 HL2 HY2 hs2 ⊢
  refine (toRow_any _ row _ (HR.out.on hb2) hfr).mono ?_
  rintro e w2 ⟨B2, rfl, hB2, b2, hy⟩
  have HZ : Hid (Firm (w.heap.size + 1 + 1 + 1) (fun u => ValsN w.heap.size u (.slice (some ⟨B2, 0, none⟩) row.length row.length) row) w2) := (hy.firmVals hfr (by omega)).mono (by omega)
  have HY3 : Hid (Firm (w.heap.size + 1 + 1 + 1) (fun u => ValsN w.heap.size u (.slice (some ⟨B1, 0, none⟩) key.length key.length) key) w2) := HY2.out.on b2
  have hb3 := ch_trans hb2 b2
  have HO3 := HO2.on b2
  have HQ3 := HQ2.on b2
  have HL3 := HL2.on b2
  have hs3 : w.heap.size + 1 + 1 + 1 ≤ w2.heap.size := by have := b2.size; omega
  clear hy hB2 b2 HO2 HQ2 HL2 hb2 hs2 HY2
  obtain ⟨c0, c1, c2, c3, c4, c5, c6, c7, c8, c9⟩ := HL3.ten
  obtain ⟨d0, d1, d2, d3, d4, d5, d6, d7, d8, d9⟩ := HO3.loc.ten
  have f3 := HO3.frozen 3
  go_wp2_with fail
  have HO4 := HO3.set 3 (.slice (some ⟨B2, 0, none⟩) row.length row.length)
  have HQ4 := HQ3.other (p := ⟨w.heap.size + 1 + 1, 3, none⟩) (by simp) (.slice (some ⟨B2, 0, none⟩) row.length row.length)
  have HF4 : Hid (Firm (w.heap.size + 1 + 1 + 1) (fun u => ValsN w.heap.size u (.slice (some ⟨B1, 0, none⟩) key.length key.length) key ∧ ValsN w.heap.size u (.slice (some ⟨B2, 0, none⟩) row.length row.length) row) (w2.setCell ⟨w.heap.size + 1 + 1, 3, none⟩ (.slice (some ⟨B2, 0, none⟩) row.length row.length))) := (HY3.out.and HZ.out).set (by simp) _
  have hb4 : Below w.heap.size w (w2.setCell ⟨w.heap.size + 1 + 1, 3, none⟩ (.slice (some ⟨B2, 0, none⟩) row.length row.length)) := (by repeat (first | with_reducible exact Below.refl _ _ | with_reducible assumption | with_reducible refine ch_alloc ?_ _ | with_reducible refine Below.drew ?_ | with_reducible refine below_draws _ ?_ | (with_reducible refine Below.setCell ?_ ?_ _; rotate_left; focus (first | with_reducible exact Nat.le_refl _ | (simp; done) | (simp; omega) | (simp at *; omega))) | with_reducible refine ch_trans ?_ (by with_reducible assumption)))
  have hs4 : w.heap.size + 1 + 1 + 1 ≤ (w2.setCell ⟨w.heap.size + 1 + 1, 3, none⟩ (.slice (some ⟨B2, 0, none⟩) row.length row.length)).heap.size := by simpa using hs3
  clear HY3 HZ HO3 HQ3 HL3 hb3 hs3 c0 c1 c2 c3 c4 c5 c6 c7 c8 c9 d0 d1 d2 d3 d4 d5 d6 d7 d8 d9 f3
  generalize (w2.setCell ⟨w.heap.size + 1 + 1, 3, none⟩ (.slice (some ⟨B2, 0, none⟩) row.length row.length)) = u2 at HO4 HQ4 hb4 HF4 hs4 ⊢
  refine (toDdl_full _ ⟨dk, dt, cs, ks, dn, to⟩ _ (HD.out _ hb4) HF.out).mono ?_
  rintro e w3 ⟨y, rfl, b3, hy⟩
  obtain ⟨c1, q1, o1, q2, rfl, _⟩ := hy.out.lit
  have HZ : Hid (Firm (w.heap.size + 1 + 1 + 1) (fun u => DdlN w.heap.size u #[.int .i64 dk, .string dt, .slice c1 cs.length q1, .slice o1 ks.length q2, .string dn, .string to] ⟨dk, dt, cs, ks, dn, to⟩) w3) := (hy.mono (by omega)).imp fun u ⟨cv, kv, e, h1, h2⟩ => ⟨cv, kv, e, ⟨h1.1, h1.2.mono ColsS.good (by omega)⟩, ⟨h2.1, h2.2.mono StrsS.good (by omega)⟩⟩
  have HF5 : Hid (Firm (w.heap.size + 1 + 1 + 1) (fun u => ValsN w.heap.size u (.slice (some ⟨B1, 0, none⟩) key.length key.length) key ∧ ValsN w.heap.size u (.slice (some ⟨B2, 0, none⟩) row.length row.length) row) w3) := HF4.out.on b3
  have HF6 : Hid (Firm (w.heap.size + 1 + 1 + 1) (fun u => StmtN w.heap.size u #[.int .i64 kind, .string table, .slice (some ⟨B1, 0, none⟩) key.length key.length, .slice (some ⟨B2, 0, none⟩) row.length row.length, .int .i64 dk, .string dt, .slice c1 cs.length q1, .slice o1 ks.length q2, .string dn, .string to] ⟨kind, table, key, row, ⟨dk, dt, cs, ks, dn, to⟩⟩) w3) := (HF5.out.and HZ.out).imp fun u ⟨⟨h1, h2⟩, h3⟩ => by
    obtain ⟨cv, kv, e, h4, h5⟩ := h3
    simp at e
    obtain ⟨rfl, rfl⟩ := e
    exact ⟨_, _, _, _, rfl, h1, h2, h4, h5⟩
  have hb3 := ch_trans hb4 b3
  have HO3 := HO4.on b3
  have HQ3 := HQ4.on b3
  clear hy HZ HF5 HF4 b3 HO4 HQ4 hb4 hs4
  obtain ⟨d0, d1, d2, d3, d4, d5, d6, d7, d8, d9⟩ := HO3.loc.ten
  have f4 := HO3.frozen 4
  have f5 := HO3.frozen 5
  have f6 := HO3.frozen 6
  have f7 := HO3.frozen 7
  have f8 := HO3.frozen 8
  have f9 := HO3.frozen 9
  obtain ⟨g0, g1, g2, g3, g4, g5, g6, g7, g8, g9⟩ := HQ3.loc.ten
  have i0 := HQ3.frozen 0
  have i1 := HQ3.frozen 1
  have i2 := HQ3.frozen 2
  have i3 := HQ3.frozen 3
  have i4 := HQ3.frozen 4
  have i5 := HQ3.frozen 5
  have i6 := HQ3.frozen 6
  have i7 := HQ3.frozen 7
  have i8 := HQ3.frozen 8
  have i9 := HQ3.frozen 9
  go_wp2
  have HQ4 : Own ((((((((((((((((w3.setCell ⟨w.heap.size + 1 + 1, 4, none⟩ (.int .i64 dk)).setCell ⟨w.heap.size + 1 + 1, 5, none⟩ (.string dt)).setCell ⟨w.heap.size + 1 + 1, 6, none⟩ (.slice c1 cs.length q1)).setCell ⟨w.heap.size + 1 + 1, 7, none⟩ (.slice o1 ks.length q2)).setCell ⟨w.heap.size + 1 + 1, 8, none⟩ (.string dn)).setCell ⟨w.heap.size + 1 + 1, 9, none⟩ (.string to)).setCell ⟨w.heap.size + 1, 0, none⟩ (.int .i64 kind)).setCell ⟨w.heap.size + 1, 1, none⟩ (.string table)).setCell ⟨w.heap.size + 1, 2, none⟩ (.slice (some ⟨B1, 0, none⟩) key.length key.length)).setCell ⟨w.heap.size + 1, 3, none⟩ (.slice (some ⟨B2, 0, none⟩) row.length row.length)).setCell ⟨w.heap.size + 1, 4, none⟩ (.int .i64 dk)).setCell ⟨w.heap.size + 1, 5, none⟩ (.string dt)).setCell ⟨w.heap.size + 1, 6, none⟩ (.slice c1 cs.length q1)).setCell ⟨w.heap.size + 1, 7, none⟩ (.slice o1 ks.length q2)).setCell ⟨w.heap.size + 1, 8, none⟩ (.string dn)).setCell ⟨w.heap.size + 1, 9, none⟩ (.string to)) _ _ #[.int .i64 kind, .string table, .slice (some ⟨B1, 0, none⟩) key.length key.length, .slice (some ⟨B2, 0, none⟩) row.length row.length, .int .i64 dk, .string dt, .slice c1 cs.length q1, .slice o1 ks.length q2, .string dn, .string to] := (Own.past (c := w.heap.size + 1 + 1) (by omega) [.int .i64 dk, .string dt, .slice c1 cs.length q1, .slice o1 ks.length q2, .string dn, .string to] _ 4 HQ3).fill (old := [_, _, _, _, _, _, _, _, _, _]) [.int .i64 kind, .string table, .slice (some ⟨B1, 0, none⟩) key.length key.length, .slice (some ⟨B2, 0, none⟩) row.length row.length, .int .i64 dk, .string dt, .slice c1 cs.length q1, .slice o1 ks.length q2, .string dn, .string to] rfl
  have HF7 : Hid (Firm (w.heap.size + 1 + 1 + 1) (fun u => StmtN w.heap.size u #[.int .i64 kind, .string table, .slice (some ⟨B1, 0, none⟩) key.length key.length, .slice (some ⟨B2, 0, none⟩) row.length row.length, .int .i64 dk, .string dt, .slice c1 cs.length q1, .slice o1 ks.length q2, .string dn, .string to] ⟨kind, table, key, row, ⟨dk, dt, cs, ks, dn, to⟩⟩) ((((((((((((((((w3.setCell ⟨w.heap.size + 1 + 1, 4, none⟩ (.int .i64 dk)).setCell ⟨w.heap.size + 1 + 1, 5, none⟩ (.string dt)).setCell ⟨w.heap.size + 1 + 1, 6, none⟩ (.slice c1 cs.length q1)).setCell ⟨w.heap.size + 1 + 1, 7, none⟩ (.slice o1 ks.length q2)).setCell ⟨w.heap.size + 1 + 1, 8, none⟩ (.string dn)).setCell ⟨w.heap.size + 1 + 1, 9, none⟩ (.string to)).setCell ⟨w.heap.size + 1, 0, none⟩ (.int .i64 kind)).setCell ⟨w.heap.size + 1, 1, none⟩ (.string table)).setCell ⟨w.heap.size + 1, 2, none⟩ (.slice (some ⟨B1, 0, none⟩) key.length key.length)).setCell ⟨w.heap.size + 1, 3, none⟩ (.slice (some ⟨B2, 0, none⟩) row.length row.length)).setCell ⟨w.heap.size + 1, 4, none⟩ (.int .i64 dk)).setCell ⟨w.heap.size + 1, 5, none⟩ (.string dt)).setCell ⟨w.heap.size + 1, 6, none⟩ (.slice c1 cs.length q1)).setCell ⟨w.heap.size + 1, 7, none⟩ (.slice o1 ks.length q2)).setCell ⟨w.heap.size + 1, 8, none⟩ (.string dn)).setCell ⟨w.heap.size + 1, 9, none⟩ (.string to))) := Firm.stores (b := w.heap.size + 1) (by omega) [.int .i64 kind, .string table, .slice (some ⟨B1, 0, none⟩) key.length key.length, .slice (some ⟨B2, 0, none⟩) row.length row.length, .int .i64 dk, .string dt, .slice c1 cs.length q1, .slice o1 ks.length q2, .string dn, .string to] _ 0 (Firm.stores (b := w.heap.size + 1 + 1) (by omega) [.int .i64 dk, .string dt, .slice c1 cs.length q1, .slice o1 ks.length q2, .string dn, .string to] _ 4 HF6.out)
  have HB : Hid (Below w.heap.size w ((((((((((((((((w3.setCell ⟨w.heap.size + 1 + 1, 4, none⟩ (.int .i64 dk)).setCell ⟨w.heap.size + 1 + 1, 5, none⟩ (.string dt)).setCell ⟨w.heap.size + 1 + 1, 6, none⟩ (.slice c1 cs.length q1)).setCell ⟨w.heap.size + 1 + 1, 7, none⟩ (.slice o1 ks.length q2)).setCell ⟨w.heap.size + 1 + 1, 8, none⟩ (.string dn)).setCell ⟨w.heap.size + 1 + 1, 9, none⟩ (.string to)).setCell ⟨w.heap.size + 1, 0, none⟩ (.int .i64 kind)).setCell ⟨w.heap.size + 1, 1, none⟩ (.string table)).setCell ⟨w.heap.size + 1, 2, none⟩ (.slice (some ⟨B1, 0, none⟩) key.length key.length)).setCell ⟨w.heap.size + 1, 3, none⟩ (.slice (some ⟨B2, 0, none⟩) row.length row.length)).setCell ⟨w.heap.size + 1, 4, none⟩ (.int .i64 dk)).setCell ⟨w.heap.size + 1, 5, none⟩ (.string dt)).setCell ⟨w.heap.size + 1, 6, none⟩ (.slice c1 cs.length q1)).setCell ⟨w.heap.size + 1, 7, none⟩ (.slice o1 ks.length q2)).setCell ⟨w.heap.size + 1, 8, none⟩ (.string dn)).setCell ⟨w.heap.size + 1, 9, none⟩ (.string to))) := by
    show Below _ _ _
    exact stores_below (b := w.heap.size + 1) (by omega) [.int .i64 kind, .string table, .slice (some ⟨B1, 0, none⟩) key.length key.length, .slice (some ⟨B2, 0, none⟩) row.length row.length, .int .i64 dk, .string dt, .slice c1 cs.length q1, .slice o1 ks.length q2, .string dn, .string to] _ 0 (stores_below (b := w.heap.size + 1 + 1) (by omega) [.int .i64 dk, .string dt, .slice c1 cs.length q1, .slice o1 ks.length q2, .string dn, .string to] _ 4 hb3)
  generalize ((((((((((((((((w3.setCell ⟨w.heap.size + 1 + 1, 4, none⟩ (.int .i64 dk)).setCell ⟨w.heap.size + 1 + 1, 5, none⟩ (.string dt)).setCell ⟨w.heap.size + 1 + 1, 6, none⟩ (.slice c1 cs.length q1)).setCell ⟨w.heap.size + 1 + 1, 7, none⟩ (.slice o1 ks.length q2)).setCell ⟨w.heap.size + 1 + 1, 8, none⟩ (.string dn)).setCell ⟨w.heap.size + 1 + 1, 9, none⟩ (.string to)).setCell ⟨w.heap.size + 1, 0, none⟩ (.int .i64 kind)).setCell ⟨w.heap.size + 1, 1, none⟩ (.string table)).setCell ⟨w.heap.size + 1, 2, none⟩ (.slice (some ⟨B1, 0, none⟩) key.length key.length)).setCell ⟨w.heap.size + 1, 3, none⟩ (.slice (some ⟨B2, 0, none⟩) row.length row.length)).setCell ⟨w.heap.size + 1, 4, none⟩ (.int .i64 dk)).setCell ⟨w.heap.size + 1, 5, none⟩ (.string dt)).setCell ⟨w.heap.size + 1, 6, none⟩ (.slice c1 cs.length q1)).setCell ⟨w.heap.size + 1, 7, none⟩ (.slice o1 ks.length q2)).setCell ⟨w.heap.size + 1, 8, none⟩ (.string dn)).setCell ⟨w.heap.size + 1, 9, none⟩ (.string to)) = W at HQ4 HB HF7 ⊢
  obtain ⟨e0, e1, e2, e3, e4, e5, e6, e7, e8, e9⟩ := HQ4.loc.ten
  exact bodyPost_ret (v := .agg #[.int .i64 kind, .string table, .slice (some ⟨B1, 0, none⟩) key.length key.length, .slice (some ⟨B2, 0, none⟩) row.length row.length, .int .i64 dk, .string dt, .slice c1 cs.length q1, .slice o1 ks.length q2, .string dn, .string to]) (by simp [results, Tryz.results105, go_sem, e0, e1, e2, e3, e4, e5, e6, e7, e8, e9]) rfl ⟨_, rfl, HB.out, HF7.out.mono (by omega)⟩
end Go.Proofs.YtikccmgpmbnkfaaGreat
