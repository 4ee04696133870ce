/- For all bytes the landed ReadStmt answers as the given one does, leaves the bytes as they were, and its answer owns its memory: 'FnExactReadStmt' returns true at every argument, with no condition; its argument reads afterwards as it read before. -/
import Derived.Test.YtikccmgpmbnkfaaGreatRke
import Derived.Test.YtikccmgpmbnkfaaGreatMks
import Derived.Deep.RegionWith
import Derived.Deep.DeepCutAuto
namespace Go.Proofs.YtikccmgpmbnkfaaGreat.lawReadStmt
open Go.ChangeShapes Go.WideShapes Go.ChangeAt Go.RowKit

theorem turnL {w w' : World} {b : Nat} {x : Array Value} (h : Loc w b x) {S : Nat → Prop} (k : Turns S w w') (hb : ¬ S b) : Loc w' b x := fun j hj => k.cell (p := ⟨b, j, none⟩) hb (h j hj)

set_option maxRecDepth 100000 in
set_option maxHeartbeats 4000000 in
theorem walk (v : Value) (l : List UInt8) (w : World) (hx : BytesV w v l) :
    Calls Tryz.prog 4 #[v] w fun e w' => e = .returned (.bool true) ∧ Below w.heap.size w w' := by
  obtain ⟨a, p, rfl, hlp, hm, hx⟩ := hx.lit
  unfold maxLen at hm
  by_cases hbig : 1048576 < l.length
  · have hbi : (1048576 : Int) < l.length := by omega
    go_enter Tryz.func4, Tryz.ntmps4
    go_wp2
    go_ret
    exact ⟨rfl, (by repeat (first | with_reducible exact Below.refl _ _ | with_reducible assumption | with_reducible refine ch_alloc ?_ _ | with_reducible refine Below.drew ?_ | with_reducible refine below_draws _ ?_ | (with_reducible refine Below.setCell ?_ ?_ _; rotate_left; focus (first | with_reducible exact Nat.le_refl _ | (simp; done) | (simp; omega) | (simp at *; omega))) | with_reducible refine ch_trans ?_ (by with_reducible assumption)))⟩
  have hsm : l.length ≤ 1048576 := by omega
  have hml : l.length ≤ maxLen := by unfold maxLen; omega
  have hbi : (l.length : Int) ≤ 1048576 := by omega
  have HX : Hid (BytesV w (.slice a l.length p) l) := hx
  clear hx hbig
  obtain ⟨s, q, hq⟩ : ∃ (s : Sc) (q : Bool), isStmt l s q := by
    by_cases h : ∃ u : Sc, u.right ∧ stmtL u = l
    · obtain ⟨u, h1, h2⟩ := h
      exact ⟨u, true, Or.inl ⟨rfl, h1, h2⟩⟩
    · exact ⟨Sc.zero, false, Or.inr ⟨rfl, fun u h1 h2 => h ⟨u, h1, h2⟩, rfl⟩⟩
  have HSS : Hid (∀ (u : World) (B : Nat), Fill u B 5 1 l.length (l.map byX) → Calls Tryz.prog 15 #[.slice (some ⟨B, 0, none⟩) l.length l.length] u fun e w' => ∃ E : Est, e = .returned (.tuple #[.agg E.cells, .bool q]) ∧ E.s = s ∧ u.heap.size ≤ E.lo ∧ E.Good w' ∧ Below u.heap.size u w') := fun u B h => (readStmt_spec B 0 l.length l u h.lt (Nat.le_refl _) hml hsm h.row).mono fun e w' ⟨E, r, he, hi, hlo, hg, hb⟩ => by
    obtain ⟨h1, rfl⟩ := hi.unique hq
    exact ⟨E, he, h1, hlo, hg, hb⟩
  have HSI : Hid (∀ (u : World) (B : Nat), Fill u B 5 1 l.length (l.map byX) → Calls Tryz.prog 17 #[.slice (some ⟨B, 0, none⟩) l.length l.length] u fun e w' => ∃ E : Est, e = .returned (.tuple #[.agg E.cells, .bool q]) ∧ E.s = s ∧ u.heap.size ≤ E.lo ∧ E.Good w' ∧ Below u.heap.size u w') := fun u B h => (readStmt_impl B 0 l.length l u h.lt (Nat.le_refl _) hml h.row).mono fun e w' ⟨E, r, he, hi, hlo, hg, hb⟩ => by
    obtain ⟨h1, rfl⟩ := hi.unique hq
    exact ⟨E, he, h1, hlo, hg, hb⟩
  have HTB : Hid (∀ u : World, Below w.heap.size w u → Calls Tryz.prog 16 #[.slice a l.length p] u fun e w' => ∃ B, e = .returned (.slice (some ⟨B, 0, none⟩) l.length l.length) ∧ u.heap.size ≤ B ∧ Below u.heap.size u w' ∧ Fill w' B 5 1 l.length (l.map byX)) := fun u hu => (toByteS_full _ l u (HX.out.on hu) hsm).mono fun e w' ⟨he, hb, hf⟩ => ⟨_, he, Nat.le_refl _, hb, hf⟩
  have hqq : (q != q) = false := by simp
  clear hq
  go_enter Tryz.func4, Tryz.ntmps4
  go_wp2_with fail
  refine (HTB.out _ (Below.refl _ _)).mono ?_
  rintro e w1 ⟨B0, rfl, _, b1, hf0⟩
  have HF0 : Hid (Fill w1 B0 5 1 l.length (l.map byX)) := hf0
  clear hf0
  go_wp2_with fail
  refine (HSS.out _ _ HF0.out).mono ?_
  rintro e w2 ⟨E0, rfl, hs0, _, hg0, b2⟩
  obtain ⟨ka0, kp0, ra0, rp0, ca0, cp0, oa0, op0, hcl0, hst0⟩ := hg0.cellsLit hs0
  rw [hcl0]
  have HV0 : Hid (StmtV w2 #[.int .i64 s.kind, .string s.table, .slice ka0 s.key.length kp0, .slice ra0 s.row.length rp0, .int .i64 s.ddl.kind, .string s.ddl.table, .slice ca0 s.ddl.cols.length cp0, .slice oa0 s.ddl.keys.length op0, .string s.ddl.name, .string s.ddl.to] s) := hst0
  have hb2 := ch_trans b1 b2
  have HN2 := Loc.new w2 #[.int .i64 s.kind, .string s.table, .slice ka0 s.key.length kp0, .slice ra0 s.row.length rp0, .int .i64 s.ddl.kind, .string s.ddl.table, .slice ca0 s.ddl.cols.length cp0, .slice oa0 s.ddl.keys.length op0, .string s.ddl.name, .string s.ddl.to] 48
  have hv2 : Below w2.heap.size w2 (w2.alloc (.cells #[.int .i64 s.kind, .string s.table, .slice ka0 s.key.length kp0, .slice ra0 s.row.length rp0, .int .i64 s.ddl.kind, .string s.ddl.table, .slice ca0 s.ddl.cols.length cp0, .slice oa0 s.ddl.keys.length op0, .string s.ddl.name, .string s.ddl.to] 48)) := (by repeat (first | with_reducible exact Below.refl _ _ | with_reducible assumption | with_reducible refine ch_alloc ?_ _ | with_reducible refine Below.drew ?_ | with_reducible refine below_draws _ ?_ | (with_reducible refine Below.setCell ?_ ?_ _; rotate_left; focus (first | with_reducible exact Nat.le_refl _ | (simp; done) | (simp; omega) | (simp at *; omega))) | with_reducible refine ch_trans ?_ (by with_reducible assumption)))
  have hz2 : (w2.alloc (.cells #[.int .i64 s.kind, .string s.table, .slice ka0 s.key.length kp0, .slice ra0 s.row.length rp0, .int .i64 s.ddl.kind, .string s.ddl.table, .slice ca0 s.ddl.cols.length cp0, .slice oa0 s.ddl.keys.length op0, .string s.ddl.name, .string s.ddl.to] 48)).heap.size = w2.heap.size + 1 := by simp
  clear hg0 hst0 hcl0 hs0 b1 b2 HF0
  go_wp2_with fail
  generalize w2.alloc (.cells #[.int .i64 s.kind, .string s.table, .slice ka0 s.key.length kp0, .slice ra0 s.row.length rp0, .int .i64 s.ddl.kind, .string s.ddl.table, .slice ca0 s.ddl.cols.length cp0, .slice oa0 s.ddl.keys.length op0, .string s.ddl.name, .string s.ddl.to] 48) = u2 at HN2 hv2 hz2 ⊢
  refine (HTB.out _ (ch_trans hb2 hv2)).mono ?_
  rintro e w3 ⟨B1, rfl, hB1, b3, hf1⟩
  have HF1 : Hid (Fill w3 B1 5 1 l.length (l.map byX)) := hf1
  have hlt1 : B1 < w3.heap.size := hf1.lt
  have HN3 := HN2.on b3
  have hb23 := ch_trans hv2 b3
  have hs23 : w2.heap.size < B1 := by omega
  clear hf1 b3 HN2 hv2
  go_wp2_with fail
  refine (HSI.out _ _ HF1.out).mono ?_
  rintro e w4 ⟨E1, rfl, hs1, hlo1, hg1, b4⟩
  obtain ⟨ka1, kp1, ra1, rp1, ca1, cp1, oa1, op1, hcl1, hst1⟩ := hg1.cellsLit hs1
  have HCL : Hid (E1.cells = #[.int .i64 s.kind, .string s.table, .slice ka1 s.key.length kp1, .slice ra1 s.row.length rp1, .int .i64 s.ddl.kind, .string s.ddl.table, .slice ca1 s.ddl.cols.length cp1, .slice oa1 s.ddl.keys.length op1, .string s.ddl.name, .string s.ddl.to]) := hcl1
  rw [hcl1]
  have HG1 : Hid (E1.Good w4) := hg1
  have HV1 : Hid (StmtV w4 #[.int .i64 s.kind, .string s.table, .slice ka1 s.key.length kp1, .slice ra1 s.row.length rp1, .int .i64 s.ddl.kind, .string s.ddl.table, .slice ca1 s.ddl.cols.length cp1, .slice oa1 s.ddl.keys.length op1, .string s.ddl.name, .string s.ddl.to] s) := hst1
  have htop1 := hg1.top
  have HN4 := HN3.on b4
  have HF4 : Hid (Fill w4 B1 5 1 l.length (l.map byX)) := HF1.out.on b4
  have hb24 := ch_trans hb23 b4
  have HP4 := Loc.new w4 #[.int .i64 s.kind, .string s.table, .slice ka1 s.key.length kp1, .slice ra1 s.row.length rp1, .int .i64 s.ddl.kind, .string s.ddl.table, .slice ca1 s.ddl.cols.length cp1, .slice oa1 s.ddl.keys.length op1, .string s.ddl.name, .string s.ddl.to] 48
  have hv4 : Below w4.heap.size w4 (w4.alloc (.cells #[.int .i64 s.kind, .string s.table, .slice ka1 s.key.length kp1, .slice ra1 s.row.length rp1, .int .i64 s.ddl.kind, .string s.ddl.table, .slice ca1 s.ddl.cols.length cp1, .slice oa1 s.ddl.keys.length op1, .string s.ddl.name, .string s.ddl.to] 48)) := (by repeat (first | with_reducible exact Below.refl _ _ | with_reducible assumption | with_reducible refine ch_alloc ?_ _ | with_reducible refine Below.drew ?_ | with_reducible refine below_draws _ ?_ | (with_reducible refine Below.setCell ?_ ?_ _; rotate_left; focus (first | with_reducible exact Nat.le_refl _ | (simp; done) | (simp; omega) | (simp at *; omega))) | with_reducible refine ch_trans ?_ (by with_reducible assumption)))
  have hz4 : (w4.alloc (.cells #[.int .i64 s.kind, .string s.table, .slice ka1 s.key.length kp1, .slice ra1 s.row.length rp1, .int .i64 s.ddl.kind, .string s.ddl.table, .slice ca1 s.ddl.cols.length cp1, .slice oa1 s.ddl.keys.length op1, .string s.ddl.name, .string s.ddl.to] 48)).heap.size = w4.heap.size + 1 := by simp
  have hs34 : w3.heap.size ≤ w4.heap.size := b4.size
  have HES : Hid (E1.s = s) := hs1
  clear hg1 hst1 hcl1 hs1 b4 HN3 hb23 HF1
  obtain ⟨n0, n1, n2, n3, n4, n5, n6, n7, n8, n9⟩ := (HN4.on hv4).ten
  obtain ⟨p0, p1, p2, p3, p4, p5, p6, p7, p8, p9⟩ := HP4.ten
  go_wp2_with fail
  clear n0 n1 n2 n3 n4 n5 n6 n7 n8 n9 p0 p1 p2 p3 p4 p5 p6 p7 p8 p9
  have HN5 := HN4.on hv4
  have HG5 : Hid (E1.Good (w4.alloc (.cells #[.int .i64 s.kind, .string s.table, .slice ka1 s.key.length kp1, .slice ra1 s.row.length rp1, .int .i64 s.ddl.kind, .string s.ddl.table, .slice ca1 s.ddl.cols.length cp1, .slice oa1 s.ddl.keys.length op1, .string s.ddl.name, .string s.ddl.to] 48))) := HG1.out.on hv4
  have HV5 : Hid (StmtV (w4.alloc (.cells #[.int .i64 s.kind, .string s.table, .slice ka1 s.key.length kp1, .slice ra1 s.row.length rp1, .int .i64 s.ddl.kind, .string s.ddl.table, .slice ca1 s.ddl.cols.length cp1, .slice oa1 s.ddl.keys.length op1, .string s.ddl.name, .string s.ddl.to] 48)) #[.int .i64 s.kind, .string s.table, .slice ka1 s.key.length kp1, .slice ra1 s.row.length rp1, .int .i64 s.ddl.kind, .string s.ddl.table, .slice ca1 s.ddl.cols.length cp1, .slice oa1 s.ddl.keys.length op1, .string s.ddl.name, .string s.ddl.to] s) := HV1.out.on hv4
  have HF5 : Hid (Fill (w4.alloc (.cells #[.int .i64 s.kind, .string s.table, .slice ka1 s.key.length kp1, .slice ra1 s.row.length rp1, .int .i64 s.ddl.kind, .string s.ddl.table, .slice ca1 s.ddl.cols.length cp1, .slice oa1 s.ddl.keys.length op1, .string s.ddl.name, .string s.ddl.to] 48)) B1 5 1 l.length (l.map byX)) := HF4.out.on hv4
  have hb25 := ch_trans hb24 hv4
  clear HN4 HG1 HV1 HF4 hb24
  generalize w4.alloc (.cells #[.int .i64 s.kind, .string s.table, .slice ka1 s.key.length kp1, .slice ra1 s.row.length rp1, .int .i64 s.ddl.kind, .string s.ddl.table, .slice ca1 s.ddl.cols.length cp1, .slice oa1 s.ddl.keys.length op1, .string s.ddl.name, .string s.ddl.to] 48) = u4 at HP4 HN5 HG5 HV5 HF5 hb25 hv4 hz4 ⊢
  refine (eqStmt_same _ _ s _ HV5.out (HV0.out.on hb25)).mono ?_
  rintro e w5 ⟨rfl, b5⟩
  have HP6 := HP4.on b5
  have HN6 := HN5.on b5
  have HG6 : Hid (E1.Good w5) := HG5.out.on b5
  have HV6 : Hid (StmtV w5 #[.int .i64 s.kind, .string s.table, .slice ka1 s.key.length kp1, .slice ra1 s.row.length rp1, .int .i64 s.ddl.kind, .string s.ddl.table, .slice ca1 s.ddl.cols.length cp1, .slice oa1 s.ddl.keys.length op1, .string s.ddl.name, .string s.ddl.to] s) := HV5.out.on b5
  have HF6 : Hid (Fill w5 B1 5 1 l.length (l.map byX)) := HF5.out.on b5
  have hb26 := ch_trans hb25 b5
  have hs45 : w4.heap.size < w5.heap.size := by have := b5.size; omega
  clear b5 HP4 HN5 HG5 HV5 HF5 hb25 hv4 hz4
  go_wp2_with fail
  refine (HTB.out _ (ch_trans hb2 hb26)).mono ?_
  rintro e w6 ⟨B2, rfl, _, b6, hf2⟩
  have HF2 : Hid (Fill w6 B2 5 1 l.length (l.map byX)) := hf2
  have HF16 : Hid (Fill w6 B1 5 1 l.length (l.map byX)) := HF6.out.on b6
  clear hf2
  go_wp2_with fail
  refine (eqByteS_same _ _ l _ (HF16.out.bytesV hml) (HF2.out.bytesV hml)).mono ?_
  rintro e w7 ⟨rfl, b7⟩
  have b67 := ch_trans b6 b7
  obtain ⟨f1, hr1⟩ := (HF6.out.on b67).rowIs
  have HR1 : Hid (w7.rowIs B1 5 (l.length * 1) f1) := hr1
  have HP7 := HP6.on b67
  have HN7 := HN6.on b67
  have HG7 : Hid (E1.Good w7) := HG6.out.on b67
  have HV7 : Hid (StmtV w7 #[.int .i64 s.kind, .string s.table, .slice ka1 s.key.length kp1, .slice ra1 s.row.length rp1, .int .i64 s.ddl.kind, .string s.ddl.table, .slice ca1 s.ddl.cols.length cp1, .slice oa1 s.ddl.keys.length op1, .string s.ddl.name, .string s.ddl.to] s) := HV6.out.on b67
  have hb27 := ch_trans hb26 b67
  have hs57 : w5.heap.size ≤ w7.heap.size := b67.size
  clear hr1 b6 b7 b67 HP6 HN6 HG6 HV6 HF6 hb26 HF2 HF16
  go_wp2_with fail
  refine (markByteS_wide B1 l.length l.length _ _ f1 1 _ HR1.out (by omega) (by omega) (by omega)).mono ?_
  rintro e w8 ⟨rfl, hT1, _⟩
  have hK1b : 0 ≤ 1 + l.length := Nat.zero_le _
  generalize 1 + l.length = K1 at hK1b ⊢
  have hk0 : decide ((K1 : Int) < 0) = false := by simp
  have HP8 : Loc w8 _ _ := turnL HP7 hT1 (by show ¬ (w4.heap.size = B1); omega)
  have HN8 : Loc w8 _ _ := turnL HN7 hT1 (by show ¬ (w2.heap.size = B1); omega)
  have HG8 : Hid (E1.Good w8) := HG7.out.keep hT1.size fun c h1 h2 => hT1.block c (by have := HG7.out.top; omega) (by show ¬ (c = B1); omega)
  have hb28 : Below w2.heap.size w2 w8 := hb27.trans (hT1.toBelow (fun c h => by have h : c = B1 := h; omega) (by have := hb27.size; omega))
  have hs78 := hT1.size
  clear hT1 HP7 HN7 HG7 HV7 hb27 HR1
  have HV8 : Hid (StmtV w8 #[.int .i64 s.kind, .string s.table, .slice ka1 s.key.length kp1, .slice ra1 s.row.length rp1, .int .i64 s.ddl.kind, .string s.ddl.table, .slice ca1 s.ddl.cols.length cp1, .slice oa1 s.ddl.keys.length op1, .string s.ddl.name, .string s.ddl.to] s) := by
    have h := HG8.out.stmt
    rw [HCL.out] at h
    rw [HES.out] at h
    exact h
  obtain ⟨n0, n1, n2, n3, n4, n5, n6, n7, n8, n9⟩ := HN8.ten
  obtain ⟨p0, p1, p2, p3, p4, p5, p6, p7, p8, p9⟩ := HP8.ten
  go_wp2_with (go_at_call 18; refine (eqStmt_same _ _ s _ HV8.out (HV0.out.on hb28)).mono ?_; rintro e w9 ⟨rfl, b9⟩; obtain ⟨g0, g1, g2, g3, g4, g5, g6, g7, g8, g9⟩ := (HP8.on b9).ten)
  have HP9 := HP8.on b9
  have HN9 := HN8.on b9
  have HG9 : Hid (E1.Good w9) := HG8.out.on b9
  have hb29 := ch_trans hb28 b9
  have hs89 := b9.size
  clear n0 n1 n2 n3 n4 n5 n6 n7 n8 n9 p0 p1 p2 p3 p4 p5 p6 p7 p8 p9 g0 g1 g2 g3 g4 g5 g6 g7 g8 g9 b9 HP8 HN8 HG8 HV8 hb28
  have hmk := markStmt_pl HG9.out 1 (by omega)
  rw [HCL.out] at hmk
  refine hmk.mono ?_
  rintro e w10 ⟨rfl, hT, hheld⟩
  have HH : Hid (HeldE w10 E1 1) := hheld
  have HP10 : Loc w10 _ _ := turnL HP9 hT (by show ¬ (E1.lo ≤ w4.heap.size ∧ w4.heap.size < E1.hi); omega)
  have HN10 : Loc w10 _ _ := turnL HN9 hT (by show ¬ (E1.lo ≤ w2.heap.size ∧ w2.heap.size < E1.hi); omega)
  have hb210 : Below w2.heap.size w2 w10 := hb29.trans (hT.toBelow (fun c h => by omega) (by have := hb29.size; omega))
  have HHS : Hid (∀ u : World, HeldE u E1 1 → Calls Tryz.prog 22 #[.agg #[.int .i64 s.kind, .string s.table, .slice ka1 s.key.length kp1, .slice ra1 s.row.length rp1, .int .i64 s.ddl.kind, .string s.ddl.table, .slice ca1 s.ddl.cols.length cp1, .slice oa1 s.ddl.keys.length op1, .string s.ddl.name, .string s.ddl.to], .int .i64 1] u fun e w' => e = .returned (.int .i64 ((1 + (E1.p2 ++ (E1.p3 ++ (E1.p6 ++ E1.p7))).length : Nat) : Int)) ∧ Below u.heap.size u w') := fun u hu => by
    have h := heldStmt_pl 1 (by omega) hu
    rwa [HCL.out] at h
  clear hmk hT hheld HP9 HN9 HG9 hb29
  generalize 1 + (E1.p2 ++ (E1.p3 ++ (E1.p6 ++ E1.p7))).length = M at HHS ⊢
  have hm0 : decide ((M : Int) < 0) = false := by simp
  have hmm : ((M : Int) != M) = false := by simp
  obtain ⟨p0, p1, p2, p3, p4, p5, p6, p7, p8, p9⟩ := HP10.ten
  go_wp2_with fail
  clear p0 p1 p2 p3 p4 p5 p6 p7 p8 p9
  refine (HHS.out _ HH.out).mono ?_
  rintro e w11 ⟨rfl, b11⟩
  have HH11 : Hid (HeldE w11 E1 1) := HH.out.on b11
  have HP11 := HP10.on b11
  have HN11 := HN10.on b11
  have hb211 := ch_trans hb210 b11
  have hb11 := ch_trans hb2 hb211
  clear b11 HH HP10 HN10 hb210
  go_wp2_with fail
  refine (HTB.out _ hb11).mono ?_
  rintro e w12 ⟨B3, rfl, _, b12, hf3⟩
  have HF3 : Hid (Fill w12 B3 5 1 l.length (l.map byX)) := hf3
  clear hf3
  go_wp2_with fail
  refine (HSI.out _ _ HF3.out).mono ?_
  rintro e w13 ⟨E2, rfl, hs2, _, hg2, b13⟩
  obtain ⟨ka2, kp2, ra2, rp2, ca2, cp2, oa2, op2, hcl2, hst2⟩ := hg2.cellsLit hs2
  rw [hcl2]
  have HV2 : Hid (StmtV w13 #[.int .i64 s.kind, .string s.table, .slice ka2 s.key.length kp2, .slice ra2 s.row.length rp2, .int .i64 s.ddl.kind, .string s.ddl.table, .slice ca2 s.ddl.cols.length cp2, .slice oa2 s.ddl.keys.length op2, .string s.ddl.name, .string s.ddl.to] s) := hst2
  have hv13 : Below w13.heap.size w13 (w13.alloc (.cells #[.int .i64 s.kind, .string s.table, .slice ka2 s.key.length kp2, .slice ra2 s.row.length rp2, .int .i64 s.ddl.kind, .string s.ddl.table, .slice ca2 s.ddl.cols.length cp2, .slice oa2 s.ddl.keys.length op2, .string s.ddl.name, .string s.ddl.to] 48)) := (by repeat (first | with_reducible exact Below.refl _ _ | with_reducible assumption | with_reducible refine ch_alloc ?_ _ | with_reducible refine Below.drew ?_ | with_reducible refine below_draws _ ?_ | (with_reducible refine Below.setCell ?_ ?_ _; rotate_left; focus (first | with_reducible exact Nat.le_refl _ | (simp; done) | (simp; omega) | (simp at *; omega))) | with_reducible refine ch_trans ?_ (by with_reducible assumption)))
  have HQ13 := Loc.new w13 #[.int .i64 s.kind, .string s.table, .slice ka2 s.key.length kp2, .slice ra2 s.row.length rp2, .int .i64 s.ddl.kind, .string s.ddl.table, .slice ca2 s.ddl.cols.length cp2, .slice oa2 s.ddl.keys.length op2, .string s.ddl.name, .string s.ddl.to] 48
  have b1113 := ch_trans b12 b13
  have h1114 := ch_trans b1113 hv13
  have HN14 := HN11.on h1114
  have HP14 := HP11.on h1114
  obtain ⟨n0, n1, n2, n3, n4, n5, n6, n7, n8, n9⟩ := HN14.ten
  obtain ⟨p0, p1, p2, p3, p4, p5, p6, p7, p8, p9⟩ := HQ13.ten
  clear hg2 hst2 hcl2 hs2 b12 b13 HF3 HN11 HP11
  go_wp2_with fail
  clear n0 n1 n2 n3 n4 n5 n6 n7 n8 n9 p0 p1 p2 p3 p4 p5 p6 p7 p8 p9
  have HV14 : Hid (StmtV (w13.alloc (.cells #[.int .i64 s.kind, .string s.table, .slice ka2 s.key.length kp2, .slice ra2 s.row.length rp2, .int .i64 s.ddl.kind, .string s.ddl.table, .slice ca2 s.ddl.cols.length cp2, .slice oa2 s.ddl.keys.length op2, .string s.ddl.name, .string s.ddl.to] 48)) #[.int .i64 s.kind, .string s.table, .slice ka2 s.key.length kp2, .slice ra2 s.row.length rp2, .int .i64 s.ddl.kind, .string s.ddl.table, .slice ca2 s.ddl.cols.length cp2, .slice oa2 s.ddl.keys.length op2, .string s.ddl.name, .string s.ddl.to] s) := HV2.out.on hv13
  generalize w13.alloc (.cells #[.int .i64 s.kind, .string s.table, .slice ka2 s.key.length kp2, .slice ra2 s.row.length rp2, .int .i64 s.ddl.kind, .string s.ddl.table, .slice ca2 s.ddl.cols.length cp2, .slice oa2 s.ddl.keys.length op2, .string s.ddl.name, .string s.ddl.to] 48) = u13 at hv13 HQ13 h1114 HN14 HP14 HV14 ⊢
  refine (eqStmt_same _ _ s _ HV14.out (HV0.out.on (ch_trans hb211 h1114))).mono ?_
  rintro e w14 ⟨rfl, b14⟩
  have h1115 := ch_trans h1114 b14
  obtain ⟨p0, p1, p2, p3, p4, p5, p6, p7, p8, p9⟩ := (HP14.on b14).ten
  clear b14 h1114 b1113 hv13 HV14 HQ13
  go_wp2_with fail
  clear p0 p1 p2 p3 p4 p5 p6 p7 p8 p9
  refine (HHS.out _ (HH11.out.on h1115)).mono ?_
  rintro e w15 ⟨rfl, b15⟩
  have hb15 := ch_trans hb11 (ch_trans h1115 b15)
  clear b15 h1115
  go_wp2
  go_ret
  exact ⟨rfl, hb15⟩

theorem own : ownKnob Tryz.prog.godebug = none := by kernel_rfl
theorem laidOut : laidOutB Tryz.prog = true := by kernel_rfl

set_option maxRecDepth 100000 in
theorem lifted (os : Os) (started : os.Started) (H : Type) (enc : TypeId × Value → H) :
    ReturnsInHanded {} Tryz.checked os 4 .any (Rows.fnExactReadStmtSpec.pre6 enc Tryz.prog Tryz.f4 Rows.fnExactReadStmtRow.domain false) (Rows.fnExactReadStmtSpec.post enc Tryz.prog Tryz.f4 false true false false) := by
  refine returnsInHanded_of_change (C := Tryz.checked) own started (by kernel_rfl) Tryz.func4
    (ChangeSpec.witness6 (enc := enc) (C := Tryz.checked) false ⟨#[], #[.slice none 0 0], []⟩ 8 (by kernel_rfl) (by kernel_rfl) (by kernel_rfl) (by kernel_rfl)) ?_
  intro W base args ds gs before hval0 hW _ _
  have hval : ∀ (j : Nat) t v, Tryz.f4.params[j]? = some t → args[j]? = some v → Value.okWide Tryz.prog W .any base t v := hval0
  have hW' := hW
  obtain ⟨p, q, hA0, hV, rfl, _, _⟩ := hW
  have hA : DataW.TrodAll enc Tryz.prog W 0 (fun _ => true) true Tryz.f4.params.toList args.toList ds p := hA0
  rw [Tryz.params4] at hA hval
  obtain ⟨v0, d0, rfl, rfl, h0⟩ := trodAll_one hA
  obtain ⟨rfl, rfl⟩ := trodVars_none hV
  have h0k := h0
  obtain ⟨a0, len0, cap0, rfl⟩ := okWide_slice Tryz.underlying26 (hval 0 26 v0 rfl rfl)
  obtain ⟨k, hk⟩ := h0
  obtain ⟨x, l, hc, hx⟩ := open_bytes hk
  have hc' : x = .slice a0 len0 cap0 := by simpa [Value.cells] using hc.symm
  subst hc'
  clear hA0 hval0
  simp only [List.append_nil] at hW'
  have hlt : ∀ x ∈ p, x.block < W.heap.size := fun x hx => by simpa using hW'.lt x (by simp [hx])
  refine (walk _ l W hx).mono fun e W' ⟨he, bel⟩ => ?_
  subst he
  exact ⟨_, rfl, _, _, _, [], _, [], hW', trodAll_mk1 (shut_bool Tryz.underlying4 _), trodAll_mk1 (Below.trod laidOut (by kernel_rfl) (of_decide_eq_true (by kernel_rfl)) h0k bel hlt), rfl, bel.frame _, fun h => by cases h⟩

theorem over : Rows.FnExactReadStmtSaid :=
  OpenClaim.holds_of_wide 4 Tryz.f4 rfl rfl rfl rfl rfl rfl rfl ⟨rfl, rfl, rfl, rfl, rfl⟩ rfl rfl rfl rfl rfl (by kernel_rfl) Tryz.func4 (by kernel_rfl)
    (of_decide_eq_true (by kernel_rfl)) (by unfold Func.isWrapper; first | (rw [if_pos (by decide +kernel)]; kernel_rfl) | (rw [if_neg (by decide +kernel)]; exact ⟨rfl, rfl⟩))
    (fun os started H enc _ => lifted os started H enc)
end Go.Proofs.YtikccmgpmbnkfaaGreat.lawReadStmt
namespace Go.Proofs.YtikccmgpmbnkfaaGreat
theorem fnExactReadStmt_holds : Rows.FnExactReadStmtSaid := lawReadStmt.over
#print axioms fnExactReadStmt_holds
end Go.Proofs.YtikccmgpmbnkfaaGreat
