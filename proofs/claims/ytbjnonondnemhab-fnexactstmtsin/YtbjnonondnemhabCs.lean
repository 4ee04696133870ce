/- A statement copied: the landed copyStmt. -/
import Derived.Test.YtbjnonondnemhabCa
import Derived.Test.YtbjnonondnemhabAl
namespace Go.Proofs.Ytbjnonondnemhab
open Go.ChangeShapes Go.WideShapes Go.ChangeAt Go.RowKit

set_option maxRecDepth 100000 in
set_option maxHeartbeats 4000000 in
/-- impl.copyStmt -/
theorem copyStmt_own (kb ko kp rb ro rp cb co cp ob oo op : Nat) (s : Sc) (w : World) (hk : ValsV w (.slice (some ⟨kb, ko, none⟩) s.key.length kp) s.key) (hr : ValsV w (.slice (some ⟨rb, ro, none⟩) s.row.length rp) s.row) (hc : ColsV w (.slice (some ⟨cb, co, none⟩) s.ddl.cols.length cp) s.ddl.cols) (ho : StrsV w (.slice (some ⟨ob, oo, none⟩) s.ddl.keys.length op) s.ddl.keys) (few : s.few) :
    Calls Try.prog 48 #[.agg #[.int .i64 s.kind, .string s.table, .slice (some ⟨kb, ko, none⟩) s.key.length kp, .slice (some ⟨rb, ro, none⟩) s.row.length rp, .int .i64 s.ddl.kind, .string s.ddl.table, .slice (some ⟨cb, co, none⟩) s.ddl.cols.length cp, .slice (some ⟨ob, oo, none⟩) s.ddl.keys.length op, .string s.ddl.name, .string s.ddl.to]] w fun e w' => ∃ E : Est, e = .returned (.agg E.cells) ∧ E.s = s ∧ w.heap.size ≤ E.lo ∧ Below w.heap.size w w' ∧ E.Good w' := by
  have HK : Hid (ValsV w (.slice (some ⟨kb, ko, none⟩) s.key.length kp) s.key) := hk
  have HR : Hid (ValsV w (.slice (some ⟨rb, ro, none⟩) s.row.length rp) s.row) := hr
  have HC : Hid (ColsV w (.slice (some ⟨cb, co, none⟩) s.ddl.cols.length cp) s.ddl.cols) := hc
  have HO : Hid (StrsV w (.slice (some ⟨ob, oo, none⟩) s.ddl.keys.length op) s.ddl.keys) := ho
  have hl1 := few.1
  have hl2 := few.2.1
  have hl3 := few.2.2.1
  have hl4 := few.2.2.2
  have FEW : Hid s.few := few
  clear hk hr hc ho few
  go_enter Try.func48, Try.ntmps48
  go_wp2_with fail
  have hb0 : Below w.heap.size w ((w.alloc (.cells #[.int .i64 s.kind, .string s.table, .slice (some ⟨kb, ko, none⟩) s.key.length kp, .slice (some ⟨rb, ro, none⟩) s.row.length rp, .int .i64 s.ddl.kind, .string s.ddl.table, .slice (some ⟨cb, co, none⟩) s.ddl.cols.length cp, .slice (some ⟨ob, oo, none⟩) s.ddl.keys.length op, .string s.ddl.name, .string s.ddl.to] 67)).alloc (.cells #[.int .i64 0, .string { data := #[] }, .slice none 0 0, .slice none 0 0, .int .i64 0, .string { data := #[] }, .slice none 0 0, .slice none 0 0, .string { data := #[] }, .string { data := #[] }] 67)) := (by repeat (first | with_reducible exact Below.refl _ _ | with_reducible assumption | with_reducible refine ch_alloc ?_ _ | with_reducible refine Below.drew ?_ | with_reducible refine below_draws _ ?_ | (with_reducible refine Below.setCell ?_ ?_ _; rotate_left; focus (first | with_reducible exact Nat.le_refl _ | (simp; done) | (simp; omega) | (simp at *; omega))) | with_reducible refine ch_trans ?_ (by with_reducible assumption)))
  have HQ := (Own.new w 67 #[.int .i64 s.kind, .string s.table, .slice (some ⟨kb, ko, none⟩) s.key.length kp, .slice (some ⟨rb, ro, none⟩) s.row.length rp, .int .i64 s.ddl.kind, .string s.ddl.table, .slice (some ⟨cb, co, none⟩) s.ddl.cols.length cp, .slice (some ⟨ob, oo, none⟩) s.ddl.keys.length op, .string s.ddl.name, .string s.ddl.to]).on (ch_alloc (Below.refl _ _) (.cells #[.int .i64 0, .string { data := #[] }, .slice none 0 0, .slice none 0 0, .int .i64 0, .string { data := #[] }, .slice none 0 0, .slice none 0 0, .string { data := #[] }, .string { data := #[] }] 67))
  have HZ := Own.at (w.alloc (.cells #[.int .i64 s.kind, .string s.table, .slice (some ⟨kb, ko, none⟩) s.key.length kp, .slice (some ⟨rb, ro, none⟩) s.row.length rp, .int .i64 s.ddl.kind, .string s.ddl.table, .slice (some ⟨cb, co, none⟩) s.ddl.cols.length cp, .slice (some ⟨ob, oo, none⟩) s.ddl.keys.length op, .string s.ddl.name, .string s.ddl.to] 67)) 67 #[.int .i64 0, .string { data := #[] }, .slice none 0 0, .slice none 0 0, .int .i64 0, .string { data := #[] }, .slice none 0 0, .slice none 0 0, .string { data := #[] }, .string { data := #[] }] (n := w.heap.size + 1) (by simp)
  have hs0 : w.heap.size + 1 + 1 ≤ ((w.alloc (.cells #[.int .i64 s.kind, .string s.table, .slice (some ⟨kb, ko, none⟩) s.key.length kp, .slice (some ⟨rb, ro, none⟩) s.row.length rp, .int .i64 s.ddl.kind, .string s.ddl.table, .slice (some ⟨cb, co, none⟩) s.ddl.cols.length cp, .slice (some ⟨ob, oo, none⟩) s.ddl.keys.length op, .string s.ddl.name, .string s.ddl.to] 67)).alloc (.cells #[.int .i64 0, .string { data := #[] }, .slice none 0 0, .slice none 0 0, .int .i64 0, .string { data := #[] }, .slice none 0 0, .slice none 0 0, .string { data := #[] }, .string { data := #[] }] 67)).heap.size := by simp
  generalize ((w.alloc (.cells #[.int .i64 s.kind, .string s.table, .slice (some ⟨kb, ko, none⟩) s.key.length kp, .slice (some ⟨rb, ro, none⟩) s.row.length rp, .int .i64 s.ddl.kind, .string s.ddl.table, .slice (some ⟨cb, co, none⟩) s.ddl.cols.length cp, .slice (some ⟨ob, oo, none⟩) s.ddl.keys.length op, .string s.ddl.name, .string s.ddl.to] 67)).alloc (.cells #[.int .i64 0, .string { data := #[] }, .slice none 0 0, .slice none 0 0, .int .i64 0, .string { data := #[] }, .slice none 0 0, .slice none 0 0, .string { data := #[] }, .string { data := #[] }] 67)) = u0 at hb0 HQ HZ hs0 ⊢
  refine (cloneValsA kb ko _ kp s.key _ (HK.out.on hb0) hl1).mono ?_
  rintro e w1 ⟨kv, rfl, b1, hg⟩
  obtain ⟨a1, n1, c1, rfl, hg⟩ := hg.lit2
  obtain ⟨B1, hB1⟩ : ∃ B, B = u0.heap.size := ⟨_, rfl⟩
  rw [← hB1] at hg
  have hBs1 : B1 ≤ w1.heap.size := by rw [hB1]; exact b1.size
  have hBl1 : w.heap.size + 1 + 1 ≤ B1 := by rw [hB1]; exact hs0
  have G1 : Got w1 B1 84 3 (.slice a1 n1 c1) (s.key.map Vc.cells) := hg
  have hh1 : ∀ g, (.slice a1 n1 c1 : Value).ownBlock = some g → g < w1.heap.size := fun g h0 => by obtain ⟨cur, h1⟩ := G1.tag h0; exact (Array.getElem?_eq_some_iff.1 h1).1
  obtain ⟨hi1, hhi1⟩ : ∃ x, x = w1.heap.size := ⟨_, rfl⟩
  rw [← hhi1] at hh1 hBs1
  have hb10 := ch_trans hb0 b1
  have HQ1 := HQ.on b1
  have HZ1 := HZ.on b1
  clear b1 hg hB1
  obtain ⟨d0, d1, d2, d3, d4, d5, d6, d7, d8, d9⟩ := HQ1.loc.ten
  have f2 := HQ1.frozen 2
  go_wp2_with fail
  have ht := (Turns.refl (fun c => c = w.heap.size) w1).set (p := ⟨w.heap.size, 2, none⟩) rfl (.slice a1 n1 c1)
  have G1 := G1.turned ht (fun c h0 h1 => by have := G1.own h0; omega)
  have HQ10 := HQ1.set 2 (.slice a1 n1 c1)
  have HZ10 := HZ1.other (p := ⟨w.heap.size, 2, none⟩) (by simp) (.slice a1 n1 c1)
  have hb1 : Below w.heap.size w (w1.setCell ⟨w.heap.size, 2, none⟩ (.slice a1 n1 c1)) := hb10.setCell (p := ⟨w.heap.size, 2, none⟩) (Nat.le_refl _) _
  have hs1 : w.heap.size + 1 + 1 ≤ (w1.setCell ⟨w.heap.size, 2, none⟩ (.slice a1 n1 c1)).heap.size := by have h1 : (w1.setCell ⟨w.heap.size, 2, none⟩ (.slice a1 n1 c1)).heap.size = w1.heap.size := (by simp); rw [h1, ← hhi1]; omega
  have ho1 : hi1 ≤ (w1.setCell ⟨w.heap.size, 2, none⟩ (.slice a1 n1 c1)).heap.size := by have h1 : (w1.setCell ⟨w.heap.size, 2, none⟩ (.slice a1 n1 c1)).heap.size = w1.heap.size := (by simp); rw [h1, ← hhi1]; exact Nat.le_refl _
  clear ht d0 d1 d2 d3 d4 d5 d6 d7 d8 d9 f2 HQ1 HZ1 hb10 hhi1 hb0
  generalize (w1.setCell ⟨w.heap.size, 2, none⟩ (.slice a1 n1 c1)) = u1 at G1 HQ10 HZ10 hb1 hs1 ho1 ⊢
  refine (copyRowA rb ro _ rp s.row _ (HR.out.on hb1) hl2).mono ?_
  rintro e w2 ⟨kv, rfl, b2, hg⟩
  obtain ⟨a2, n2, c2, rfl, hg⟩ := hg.lit2
  obtain ⟨B2, hB2⟩ : ∃ B, B = u1.heap.size := ⟨_, rfl⟩
  rw [← hB2] at hg
  have hBs2 : B2 ≤ w2.heap.size := by rw [hB2]; exact b2.size
  have hBl2 : w.heap.size + 1 + 1 ≤ B2 := by rw [hB2]; exact hs1
  have hBo2 : hi1 ≤ B2 := by rw [hB2]; exact ho1
  have G1 := G1.on b2
  have G2 : Got w2 B2 84 3 (.slice a2 n2 c2) (s.row.map Vc.cells) := hg
  have hh2 : ∀ g, (.slice a2 n2 c2 : Value).ownBlock = some g → g < w2.heap.size := fun g h0 => by obtain ⟨cur, h1⟩ := G2.tag h0; exact (Array.getElem?_eq_some_iff.1 h1).1
  obtain ⟨hi2, hhi2⟩ : ∃ x, x = w2.heap.size := ⟨_, rfl⟩
  rw [← hhi2] at hh2 hBs2
  have hb20 := ch_trans hb1 b2
  have HQ2 := HQ10.on b2
  have HZ2 := HZ10.on b2
  clear b2 hg hB2
  obtain ⟨d0, d1, d2, d3, d4, d5, d6, d7, d8, d9⟩ := HQ2.loc.ten
  have f3 := HQ2.frozen 3
  go_wp2_with fail
  have ht := (Turns.refl (fun c => c = w.heap.size) w2).set (p := ⟨w.heap.size, 3, none⟩) rfl (.slice a2 n2 c2)
  have G1 := G1.turned ht (fun c h0 h1 => by have := G1.own h0; omega)
  have G2 := G2.turned ht (fun c h0 h1 => by have := G2.own h0; omega)
  have HQ20 := HQ2.set 3 (.slice a2 n2 c2)
  have HZ20 := HZ2.other (p := ⟨w.heap.size, 3, none⟩) (by simp) (.slice a2 n2 c2)
  have hb2 : Below w.heap.size w (w2.setCell ⟨w.heap.size, 3, none⟩ (.slice a2 n2 c2)) := hb20.setCell (p := ⟨w.heap.size, 3, none⟩) (Nat.le_refl _) _
  have hs2 : w.heap.size + 1 + 1 ≤ (w2.setCell ⟨w.heap.size, 3, none⟩ (.slice a2 n2 c2)).heap.size := by have h1 : (w2.setCell ⟨w.heap.size, 3, none⟩ (.slice a2 n2 c2)).heap.size = w2.heap.size := (by simp); rw [h1, ← hhi2]; omega
  have ho2 : hi2 ≤ (w2.setCell ⟨w.heap.size, 3, none⟩ (.slice a2 n2 c2)).heap.size := by have h1 : (w2.setCell ⟨w.heap.size, 3, none⟩ (.slice a2 n2 c2)).heap.size = w2.heap.size := (by simp); rw [h1, ← hhi2]; exact Nat.le_refl _
  clear ht d0 d1 d2 d3 d4 d5 d6 d7 d8 d9 f3 HQ2 HZ2 hb20 hhi2 hb1
  generalize (w2.setCell ⟨w.heap.size, 3, none⟩ (.slice a2 n2 c2)) = u2 at G1 G2 HQ20 HZ20 hb2 hs2 ho2 ⊢
  refine (cloneColsA cb co _ cp s.ddl.cols _ (HC.out.on hb2) hl3).mono ?_
  rintro e w3 ⟨kv, rfl, b3, hg⟩
  obtain ⟨a3, n3, c3, rfl, hg⟩ := hg.lit2
  obtain ⟨B3, hB3⟩ : ∃ B, B = u2.heap.size := ⟨_, rfl⟩
  rw [← hB3] at hg
  have hBs3 : B3 ≤ w3.heap.size := by rw [hB3]; exact b3.size
  have hBl3 : w.heap.size + 1 + 1 ≤ B3 := by rw [hB3]; exact hs2
  have hBo3 : hi2 ≤ B3 := by rw [hB3]; exact ho2
  have G1 := G1.on b3
  have G2 := G2.on b3
  have G3 : Got w3 B3 86 7 (.slice a3 n3 c3) (s.ddl.cols.map Cl.cells) := hg
  have hh3 : ∀ g, (.slice a3 n3 c3 : Value).ownBlock = some g → g < w3.heap.size := fun g h0 => by obtain ⟨cur, h1⟩ := G3.tag h0; exact (Array.getElem?_eq_some_iff.1 h1).1
  obtain ⟨hi3, hhi3⟩ : ∃ x, x = w3.heap.size := ⟨_, rfl⟩
  rw [← hhi3] at hh3 hBs3
  have hb30 := ch_trans hb2 b3
  have HQ3 := HQ20.on b3
  have HZ3 := HZ20.on b3
  clear b3 hg hB3
  obtain ⟨d0, d1, d2, d3, d4, d5, d6, d7, d8, d9⟩ := HQ3.loc.ten
  have f6 := HQ3.frozen 6
  go_wp2_with fail
  have ht := (Turns.refl (fun c => c = w.heap.size) w3).set (p := ⟨w.heap.size, 6, none⟩) rfl (.slice a3 n3 c3)
  have G1 := G1.turned ht (fun c h0 h1 => by have := G1.own h0; omega)
  have G2 := G2.turned ht (fun c h0 h1 => by have := G2.own h0; omega)
  have G3 := G3.turned ht (fun c h0 h1 => by have := G3.own h0; omega)
  have HQ30 := HQ3.set 6 (.slice a3 n3 c3)
  have HZ30 := HZ3.other (p := ⟨w.heap.size, 6, none⟩) (by simp) (.slice a3 n3 c3)
  have hb3 : Below w.heap.size w (w3.setCell ⟨w.heap.size, 6, none⟩ (.slice a3 n3 c3)) := hb30.setCell (p := ⟨w.heap.size, 6, none⟩) (Nat.le_refl _) _
  have hs3 : w.heap.size + 1 + 1 ≤ (w3.setCell ⟨w.heap.size, 6, none⟩ (.slice a3 n3 c3)).heap.size := by have h1 : (w3.setCell ⟨w.heap.size, 6, none⟩ (.slice a3 n3 c3)).heap.size = w3.heap.size := (by simp); rw [h1, ← hhi3]; omega
  have ho3 : hi3 ≤ (w3.setCell ⟨w.heap.size, 6, none⟩ (.slice a3 n3 c3)).heap.size := by have h1 : (w3.setCell ⟨w.heap.size, 6, none⟩ (.slice a3 n3 c3)).heap.size = w3.heap.size := (by simp); rw [h1, ← hhi3]; exact Nat.le_refl _
  clear ht d0 d1 d2 d3 d4 d5 d6 d7 d8 d9 f6 HQ3 HZ3 hb30 hhi3 hb2
  generalize (w3.setCell ⟨w.heap.size, 6, none⟩ (.slice a3 n3 c3)) = u3 at G1 G2 G3 HQ30 HZ30 hb3 hs3 ho3 ⊢
  refine (cloneStrsA ob oo _ op s.ddl.keys _ (HO.out.on hb3) hl4).mono ?_
  rintro e w4 ⟨kv, rfl, b4, hg⟩
  obtain ⟨a4, n4, c4, rfl, hg⟩ := hg.lit2
  obtain ⟨B4, hB4⟩ : ∃ B, B = u3.heap.size := ⟨_, rfl⟩
  rw [← hB4] at hg
  have hBs4 : B4 ≤ w4.heap.size := by rw [hB4]; exact b4.size
  have hBl4 : w.heap.size + 1 + 1 ≤ B4 := by rw [hB4]; exact hs3
  have hBo4 : hi3 ≤ B4 := by rw [hB4]; exact ho3
  have G1 := G1.on b4
  have G2 := G2.on b4
  have G3 := G3.on b4
  have G4 : Got w4 B4 9 1 (.slice a4 n4 c4) (s.ddl.keys.map strX) := hg
  have hh4 : ∀ g, (.slice a4 n4 c4 : Value).ownBlock = some g → g < w4.heap.size := fun g h0 => by obtain ⟨cur, h1⟩ := G4.tag h0; exact (Array.getElem?_eq_some_iff.1 h1).1
  obtain ⟨hi4, hhi4⟩ : ∃ x, x = w4.heap.size := ⟨_, rfl⟩
  rw [← hhi4] at hh4 hBs4
  have hb40 := ch_trans hb3 b4
  have HQ4 := HQ30.on b4
  have HZ4 := HZ30.on b4
  clear b4 hg hB4
  obtain ⟨d0, d1, d2, d3, d4, d5, d6, d7, d8, d9⟩ := HQ4.loc.ten
  have f7 := HQ4.frozen 7
  obtain ⟨z0, z1, z2, z3, z4, z5, z6, z7, z8, z9⟩ := HZ4.loc.ten
  have y0 := HZ4.frozen 0
  have y1 := HZ4.frozen 1
  have y2 := HZ4.frozen 2
  have y3 := HZ4.frozen 3
  have y4 := HZ4.frozen 4
  have y5 := HZ4.frozen 5
  have y6 := HZ4.frozen 6
  have y7 := HZ4.frozen 7
  have y8 := HZ4.frozen 8
  have y9 := HZ4.frozen 9
  go_wp2
  have HF : Hid (Own (((((((((((w4.setCell ⟨w.heap.size, 7, none⟩ (.slice a4 n4 c4)).setCell ⟨w.heap.size + 1, 0, none⟩ (.int .i64 s.kind)).setCell ⟨w.heap.size + 1, 1, none⟩ (.string s.table)).setCell ⟨w.heap.size + 1, 2, none⟩ (.slice a1 n1 c1)).setCell ⟨w.heap.size + 1, 3, none⟩ (.slice a2 n2 c2)).setCell ⟨w.heap.size + 1, 4, none⟩ (.int .i64 s.ddl.kind)).setCell ⟨w.heap.size + 1, 5, none⟩ (.string s.ddl.table)).setCell ⟨w.heap.size + 1, 6, none⟩ (.slice a3 n3 c3)).setCell ⟨w.heap.size + 1, 7, none⟩ (.slice a4 n4 c4)).setCell ⟨w.heap.size + 1, 8, none⟩ (.string s.ddl.name)).setCell ⟨w.heap.size + 1, 9, none⟩ (.string s.ddl.to)) (w.heap.size + 1) 67 #[.int .i64 s.kind, .string s.table, .slice a1 n1 c1, .slice a2 n2 c2, .int .i64 s.ddl.kind, .string s.ddl.table, .slice a3 n3 c3, .slice a4 n4 c4, .string s.ddl.name, .string s.ddl.to]) := (HZ4.other (p := ⟨w.heap.size, 7, none⟩) (by simp) (.slice a4 n4 c4)).fill (old := [_, _, _, _, _, _, _, _, _, _]) [.int .i64 s.kind, .string s.table, .slice a1 n1 c1, .slice a2 n2 c2, .int .i64 s.ddl.kind, .string s.ddl.table, .slice a3 n3 c3, .slice a4 n4 c4, .string s.ddl.name, .string s.ddl.to] rfl
  have ht : Turns (fun c => c = w.heap.size ∨ c = w.heap.size + 1) w4 (((((((((((w4.setCell ⟨w.heap.size, 7, none⟩ (.slice a4 n4 c4)).setCell ⟨w.heap.size + 1, 0, none⟩ (.int .i64 s.kind)).setCell ⟨w.heap.size + 1, 1, none⟩ (.string s.table)).setCell ⟨w.heap.size + 1, 2, none⟩ (.slice a1 n1 c1)).setCell ⟨w.heap.size + 1, 3, none⟩ (.slice a2 n2 c2)).setCell ⟨w.heap.size + 1, 4, none⟩ (.int .i64 s.ddl.kind)).setCell ⟨w.heap.size + 1, 5, none⟩ (.string s.ddl.table)).setCell ⟨w.heap.size + 1, 6, none⟩ (.slice a3 n3 c3)).setCell ⟨w.heap.size + 1, 7, none⟩ (.slice a4 n4 c4)).setCell ⟨w.heap.size + 1, 8, none⟩ (.string s.ddl.name)).setCell ⟨w.heap.size + 1, 9, none⟩ (.string s.ddl.to)) := ((Turns.refl (fun c => c = w.heap.size) w4).set (p := ⟨w.heap.size, 7, none⟩) rfl (.slice a4 n4 c4)).mono (fun c h => Or.inl h) |>.trans ((stores_turns (w.heap.size + 1) [.int .i64 s.kind, .string s.table, .slice a1 n1 c1, .slice a2 n2 c2, .int .i64 s.ddl.kind, .string s.ddl.table, .slice a3 n3 c3, .slice a4 n4 c4, .string s.ddl.name, .string s.ddl.to] _ _ 0 (Turns.refl _ _)).mono fun c h => Or.inr h)
  have G1 := G1.turned ht (fun c h0 h1 => by have := G1.own h0; omega)
  have G2 := G2.turned ht (fun c h0 h1 => by have := G2.own h0; omega)
  have G3 := G3.turned ht (fun c h0 h1 => by have := G3.own h0; omega)
  have G4 := G4.turned ht (fun c h0 h1 => by have := G4.own h0; omega)
  have HB : Hid (Below w.heap.size w (((((((((((w4.setCell ⟨w.heap.size, 7, none⟩ (.slice a4 n4 c4)).setCell ⟨w.heap.size + 1, 0, none⟩ (.int .i64 s.kind)).setCell ⟨w.heap.size + 1, 1, none⟩ (.string s.table)).setCell ⟨w.heap.size + 1, 2, none⟩ (.slice a1 n1 c1)).setCell ⟨w.heap.size + 1, 3, none⟩ (.slice a2 n2 c2)).setCell ⟨w.heap.size + 1, 4, none⟩ (.int .i64 s.ddl.kind)).setCell ⟨w.heap.size + 1, 5, none⟩ (.string s.ddl.table)).setCell ⟨w.heap.size + 1, 6, none⟩ (.slice a3 n3 c3)).setCell ⟨w.heap.size + 1, 7, none⟩ (.slice a4 n4 c4)).setCell ⟨w.heap.size + 1, 8, none⟩ (.string s.ddl.name)).setCell ⟨w.heap.size + 1, 9, none⟩ (.string s.ddl.to))) := hb40.trans (ht.down (fun c h => by omega) (by rw [← hhi4]; omega))
  have hsz : (((((((((((w4.setCell ⟨w.heap.size, 7, none⟩ (.slice a4 n4 c4)).setCell ⟨w.heap.size + 1, 0, none⟩ (.int .i64 s.kind)).setCell ⟨w.heap.size + 1, 1, none⟩ (.string s.table)).setCell ⟨w.heap.size + 1, 2, none⟩ (.slice a1 n1 c1)).setCell ⟨w.heap.size + 1, 3, none⟩ (.slice a2 n2 c2)).setCell ⟨w.heap.size + 1, 4, none⟩ (.int .i64 s.ddl.kind)).setCell ⟨w.heap.size + 1, 5, none⟩ (.string s.ddl.table)).setCell ⟨w.heap.size + 1, 6, none⟩ (.slice a3 n3 c3)).setCell ⟨w.heap.size + 1, 7, none⟩ (.slice a4 n4 c4)).setCell ⟨w.heap.size + 1, 8, none⟩ (.string s.ddl.name)).setCell ⟨w.heap.size + 1, 9, none⟩ (.string s.ddl.to)).heap.size = hi4 := by rw [hhi4]; simp
  obtain ⟨E, e1, e2, e3, e4, e5⟩ := Est.make (b0 := B1) (b1 := B2) (b2 := B3) (b3 := B4) (b4 := hi4) G1 G2 G3 G4 FEW.out (fun g h => by have := hh1 g h; omega) (fun g h => by have := hh2 g h; omega) (fun g h => by have := hh3 g h; omega) hh4 (by omega) (by omega) (by omega) (by omega) (by rw [hsz]; exact Nat.le_refl _)
  have HE : Hid (E.s = s ∧ E.cells = #[.int .i64 s.kind, .string s.table, .slice a1 n1 c1, .slice a2 n2 c2, .int .i64 s.ddl.kind, .string s.ddl.table, .slice a3 n3 c3, .slice a4 n4 c4, .string s.ddl.name, .string s.ddl.to] ∧ w.heap.size ≤ E.lo ∧ E.Good (((((((((((w4.setCell ⟨w.heap.size, 7, none⟩ (.slice a4 n4 c4)).setCell ⟨w.heap.size + 1, 0, none⟩ (.int .i64 s.kind)).setCell ⟨w.heap.size + 1, 1, none⟩ (.string s.table)).setCell ⟨w.heap.size + 1, 2, none⟩ (.slice a1 n1 c1)).setCell ⟨w.heap.size + 1, 3, none⟩ (.slice a2 n2 c2)).setCell ⟨w.heap.size + 1, 4, none⟩ (.int .i64 s.ddl.kind)).setCell ⟨w.heap.size + 1, 5, none⟩ (.string s.ddl.table)).setCell ⟨w.heap.size + 1, 6, none⟩ (.slice a3 n3 c3)).setCell ⟨w.heap.size + 1, 7, none⟩ (.slice a4 n4 c4)).setCell ⟨w.heap.size + 1, 8, none⟩ (.string s.ddl.name)).setCell ⟨w.heap.size + 1, 9, none⟩ (.string s.ddl.to))) := ⟨e1, e2, by omega, e5⟩
  clear e1 e2 e3 e4 e5 G1 G2 G3 G4 ht hsz hhi4 HZ4 HQ4 hb40 d0 d1 d2 d3 d4 d5 d6 d7 d8 d9 z0 z1 z2 z3 z4 z5 z6 z7 z8 z9
  generalize (((((((((((w4.setCell ⟨w.heap.size, 7, none⟩ (.slice a4 n4 c4)).setCell ⟨w.heap.size + 1, 0, none⟩ (.int .i64 s.kind)).setCell ⟨w.heap.size + 1, 1, none⟩ (.string s.table)).setCell ⟨w.heap.size + 1, 2, none⟩ (.slice a1 n1 c1)).setCell ⟨w.heap.size + 1, 3, none⟩ (.slice a2 n2 c2)).setCell ⟨w.heap.size + 1, 4, none⟩ (.int .i64 s.ddl.kind)).setCell ⟨w.heap.size + 1, 5, none⟩ (.string s.ddl.table)).setCell ⟨w.heap.size + 1, 6, none⟩ (.slice a3 n3 c3)).setCell ⟨w.heap.size + 1, 7, none⟩ (.slice a4 n4 c4)).setCell ⟨w.heap.size + 1, 8, none⟩ (.string s.ddl.name)).setCell ⟨w.heap.size + 1, 9, none⟩ (.string s.ddl.to)) = W at HF HB HE ⊢
  obtain ⟨e0, e1, e2, e3, e4, e5, e6, e7, e8, e9⟩ := HF.out.loc.ten
  exact bodyPost_ret (v := .agg #[.int .i64 s.kind, .string s.table, .slice a1 n1 c1, .slice a2 n2 c2, .int .i64 s.ddl.kind, .string s.ddl.table, .slice a3 n3 c3, .slice a4 n4 c4, .string s.ddl.name, .string s.ddl.to]) (by simp [results, Try.results48, go_sem, e0, e1, e2, e3, e4, e5, e6, e7, e8, e9]) rfl ⟨E, by rw [HE.out.2.1], HE.out.1, HE.out.2.2.1, HB.out, HE.out.2.2.2⟩
end Go.Proofs.Ytbjnonondnemhab
