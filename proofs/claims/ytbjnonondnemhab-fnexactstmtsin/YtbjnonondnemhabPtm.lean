/- Parts behind a slice, marked. -/
import Derived.Test.YtbjnonondnemhabPtb
namespace Go.Proofs.Ytbjnonondnemhab
open Go.ChangeShapes Go.WideShapes Go.ChangeAt Go.RowKit

theorem PartsS.at {S : Nat → Prop} {w : World} {b n cap : Nat} (h : PartsS S w (.slice (some ⟨b, 0, none⟩) n cap)) (j : Nat) (hj : j < n) : ∃ f a0 a1 b2 n2 c2 b3 n3 c3 a4 a5 b6 n6 c6 b7 n7 c7 a8 a9 b10 n10 c10 b11 n11 c11, S b ∧ w.rowIs b 97 (n * 12) f ∧ f (j * 12) = .int .i64 a0 ∧ f (j * 12 + 1) = .string a1 ∧ f (j * 12 + 4) = .int .i64 a4 ∧ f (j * 12 + 5) = .string a5 ∧ f (j * 12 + 8) = .string a8 ∧ f (j * 12 + 9) = .string a9 ∧ w.cell? ⟨b, j * 12, none⟩ = some (.int .i64 a0) ∧ w.cell? ⟨b, j * 12 + 1, none⟩ = some (.string a1) ∧ w.cell? ⟨b, j * 12 + 2, none⟩ = some (.slice (some ⟨b2, 0, none⟩) n2 c2) ∧ w.cell? ⟨b, j * 12 + 3, none⟩ = some (.slice (some ⟨b3, 0, none⟩) n3 c3) ∧ w.cell? ⟨b, j * 12 + 4, none⟩ = some (.int .i64 a4) ∧ w.cell? ⟨b, j * 12 + 5, none⟩ = some (.string a5) ∧ w.cell? ⟨b, j * 12 + 6, none⟩ = some (.slice (some ⟨b6, 0, none⟩) n6 c6) ∧ w.cell? ⟨b, j * 12 + 7, none⟩ = some (.slice (some ⟨b7, 0, none⟩) n7 c7) ∧ w.cell? ⟨b, j * 12 + 8, none⟩ = some (.string a8) ∧ w.cell? ⟨b, j * 12 + 9, none⟩ = some (.string a9) ∧ w.cell? ⟨b, j * 12 + 10, none⟩ = some (.slice (some ⟨b10, 0, none⟩) n10 c10) ∧ w.cell? ⟨b, j * 12 + 11, none⟩ = some (.slice (some ⟨b11, 0, none⟩) n11 c11) ∧ w.frozen? ⟨b, j * 12, none⟩ = false ∧ w.frozen? ⟨b, j * 12 + 1, none⟩ = false ∧ w.frozen? ⟨b, j * 12 + 4, none⟩ = false ∧ w.frozen? ⟨b, j * 12 + 5, none⟩ = false ∧ w.frozen? ⟨b, j * 12 + 8, none⟩ = false ∧ w.frozen? ⟨b, j * 12 + 9, none⟩ = false ∧ ValsS S w (.slice (some ⟨b2, 0, none⟩) n2 c2) ∧ ValsS S w (.slice (some ⟨b3, 0, none⟩) n3 c3) ∧ ColsS S w (.slice (some ⟨b6, 0, none⟩) n6 c6) ∧ StrsS S w (.slice (some ⟨b7, 0, none⟩) n7 c7) ∧ StrsS S w (.slice (some ⟨b10, 0, none⟩) n10 c10) ∧ StrsS S w (.slice (some ⟨b11, 0, none⟩) n11 c11) := by
  obtain ⟨b', n', cap', f, e, hb, hn, hr, hf⟩ := h
  cases e
  have h0 := hf j hj 0 (by simp)
  have h1 := hf j hj 1 (by simp)
  have h2 := hf j hj 2 (by simp)
  have h3 := hf j hj 3 (by simp)
  have h4 := hf j hj 4 (by simp)
  have h5 := hf j hj 5 (by simp)
  have h6 := hf j hj 6 (by simp)
  have h7 := hf j hj 7 (by simp)
  have h8 := hf j hj 8 (by simp)
  have h9 := hf j hj 9 (by simp)
  have h10 := hf j hj 10 (by simp)
  have h11 := hf j hj 11 (by simp)
  simp only [List.length_cons, List.length_nil, Nat.zero_add, Nat.reduceAdd, List.getElem_cons_zero, List.getElem_cons_succ, Nat.add_zero] at h0 h1 h2 h3 h4 h5 h6 h7 h8 h9 h10 h11 hr
  obtain ⟨a0, e0⟩ := h0
  obtain ⟨a1, e1⟩ := h1
  obtain ⟨b2, n2, c2, e2, _, h2⟩ := h2.lit
  obtain ⟨b3, n3, c3, e3, _, h3⟩ := h3.lit
  obtain ⟨a4, e4⟩ := h4
  obtain ⟨a5, e5⟩ := h5
  obtain ⟨b6, n6, c6, e6, _, h6⟩ := h6.lit
  obtain ⟨b7, n7, c7, e7, _, h7⟩ := h7.lit
  obtain ⟨a8, e8⟩ := h8
  obtain ⟨a9, e9⟩ := h9
  obtain ⟨b10, n10, c10, e10, _, h10⟩ := h10.lit
  obtain ⟨b11, n11, c11, e11, _, h11⟩ := h11.lit
  exact ⟨f, a0, a1, b2, n2, c2, b3, n3, c3, a4, a5, b6, n6, c6, b7, n7, c7, a8, a9, b10, n10, c10, b11, n11, c11, hb, hr, e0, e1, e4, e5, e8, e9, by rw [← e0]; exact hr.cell (by omega), by rw [← e1]; exact hr.cell (by omega), by rw [← e2]; exact hr.cell (by omega), by rw [← e3]; exact hr.cell (by omega), by rw [← e4]; exact hr.cell (by omega), by rw [← e5]; exact hr.cell (by omega), by rw [← e6]; exact hr.cell (by omega), by rw [← e7]; exact hr.cell (by omega), by rw [← e8]; exact hr.cell (by omega), by rw [← e9]; exact hr.cell (by omega), by rw [← e10]; exact hr.cell (by omega), by rw [← e11]; exact hr.cell (by omega), hr.frozen _, hr.frozen _, hr.frozen _, hr.frozen _, hr.frozen _, hr.frozen _, h2, h3, h6, h7, h10, h11⟩

set_option maxRecDepth 100000 in
set_option maxHeartbeats 4000000 in
theorem markPartS_shape (S : Nat → Prop) (v : Value) (k : Nat) (w : World) (hv : PartsS S w v) (hk : k ≤ 4000000000000000000) :
    Calls Try.prog 50 #[v, .int .i64 k] w fun e w' => ∃ k' : Nat, e = .returned (.int .i64 k') ∧ k' ≤ k + 17592192335872 ∧ Marks S w w' := by
  obtain ⟨b, n, cap, rfl, hn, hv⟩ := hv.lit
  have HV : Hid (PartsS S w (.slice (some ⟨b, 0, none⟩) n cap)) := hv
  clear hv
  go_enter Try.func50, Try.ntmps50
  go_wp2
  go_loopw [1, 5] (fun c i wr => ∃ (j K : Nat), j ≤ n ∧ i = .int .i64 j ∧ c = .int .i64 K ∧ K ≤ k + j * 16777222 ∧ Hid (Marks S w wr)) (fun _ i _ => n - (intOf i).toNat)
  case atStart => exact ⟨0, k, Nat.zero_le _, rfl, rfl, by omega, Marks.refl _ _⟩
  case round =>
    obtain ⟨j, K, hj, rfl, rfl, hK, HM0⟩ := hrel
    by_cases hlt : j < n
    · have hlti : (j : Int) < n := by omega
      have hK9 : K ≤ 4000017592192335872 := by omega
      have HV0 : Hid (PartsS S wr (.slice (some ⟨b, 0, none⟩) n cap)) := PartsS.stays S _ _ _ _ HM0.out (kind1.refl _) HV.out
      obtain ⟨f, a0, a1, b2, n2, c2, b3, n3, c3, a4, a5, b6, n6, c6, b7, n7, c7, a8, a9, b10, n10, c10, b11, n11, c11, hS, hr, e0, e1, e4, e5, e8, e9, g0, g1, g2, g3, g4, g5, g6, g7, g8, g9, g10, g11, q0, q1, q4, q5, q8, q9, t2, t3, t6, t7, t10, t11⟩ := PartsS.at HV0.out j hlt
      go_wp2_with fail
      have MS0 : Marks S wr (wr.setCell ⟨b, j * 12, none⟩ (.int .i64 ((K : Int)))) := Marks.set hS hr fun _ => by show kind1 (f (j * 12)) _; rw [e0]; exact Or.inr (Or.inl ⟨_, _, rfl, rfl⟩)
      have HM1 : Hid (Marks S w (wr.setCell ⟨b, j * 12, none⟩ (.int .i64 ((K : Int))))) := HM0.out.trans MS0
      have HV1 : Hid (PartsS S (wr.setCell ⟨b, j * 12, none⟩ (.int .i64 ((K : Int)))) (.slice (some ⟨b, 0, none⟩) n cap)) := PartsS.stays S _ _ _ _ HM1.out (kind1.refl _) HV.out
      clear MS0
      clear hS hr e0 e1 e4 e5 e8 e9 g0 g1 g2 g3 g4 g5 g6 g7 g8 g9 g10 g11 q0 q1 q4 q5 q8 q9 t2 t3 t6 t7 t10 t11
      obtain ⟨u1, hu1⟩ : ∃ u, u = (wr.setCell ⟨b, j * 12, none⟩ (.int .i64 ((K : Int)))) := ⟨_, rfl⟩
      rw [← hu1] at HM1 HV1 ⊢
      clear hu1
      obtain ⟨L1, hL1⟩ : ∃ L : Nat, (K : Int) + 1 = (L : Int) := ⟨(K + 1), by omega⟩
      rw [hL1]
      refine (markText_any L1 _ (by omega)).mono ?_
      rintro e w1 ⟨rfl, b1x⟩
      generalize (if L1 = 0 then [109, 48] else 109 :: markD L1 []) = txt1
      have HM2 : Hid (Marks S w w1) := HM1.out.below b1x
      clear b1x
      have HV2 : Hid (PartsS S w1 (.slice (some ⟨b, 0, none⟩) n cap)) := PartsS.stays S _ _ _ _ HM2.out (kind1.refl _) HV.out
      obtain ⟨f, a0, a1, b2, n2, c2, b3, n3, c3, a4, a5, b6, n6, c6, b7, n7, c7, a8, a9, b10, n10, c10, b11, n11, c11, hS, hr, e0, e1, e4, e5, e8, e9, g0, g1, g2, g3, g4, g5, g6, g7, g8, g9, g10, g11, q0, q1, q4, q5, q8, q9, t2, t3, t6, t7, t10, t11⟩ := PartsS.at HV2.out j hlt
      go_wp2_with fail
      have MS0 : Marks S w1 (w1.setCell ⟨b, j * 12 + 1, none⟩ (.string ⟨txt1.toArray⟩)) := Marks.set hS hr fun _ => by show kind1 (f (j * 12 + 1)) _; rw [e1]; exact Or.inr (Or.inr (Or.inl ⟨_, _, rfl, rfl⟩))
      have HM3 : Hid (Marks S w (w1.setCell ⟨b, j * 12 + 1, none⟩ (.string ⟨txt1.toArray⟩))) := HM2.out.trans MS0
      have HV3 : Hid (PartsS S (w1.setCell ⟨b, j * 12 + 1, none⟩ (.string ⟨txt1.toArray⟩)) (.slice (some ⟨b, 0, none⟩) n cap)) := PartsS.stays S _ _ _ _ HM3.out (kind1.refl _) HV.out
      have HT1 : Hid (ValsS S (w1.setCell ⟨b, j * 12 + 1, none⟩ (.string ⟨txt1.toArray⟩)) (.slice (some ⟨b2, 0, none⟩) n2 c2)) := ValsS.stays S _ _ _ _ MS0 (kind1.refl _) t2
      clear MS0
      clear hS hr e0 e1 e4 e5 e8 e9 g0 g1 g2 g3 g4 g5 g6 g7 g8 g9 g10 g11 q0 q1 q4 q5 q8 q9 t2 t3 t6 t7 t10 t11
      obtain ⟨u2, hu2⟩ : ∃ u, u = (w1.setCell ⟨b, j * 12 + 1, none⟩ (.string ⟨txt1.toArray⟩)) := ⟨_, rfl⟩
      rw [← hu2] at HM3 HV3 HT1 ⊢
      clear hu2
      obtain ⟨L2, hL2⟩ : ∃ L : Nat, (L1 : Int) + 1 = (L : Int) := ⟨(L1 + 1), by omega⟩
      rw [hL2]
      refine (markValS_shape S _ L2 _ HT1.out (by omega)).mono ?_
      rintro e w2 ⟨K1, rfl, hK1, hM⟩
      have HM4 : Hid (Marks S w w2) := HM3.out.trans hM
      clear hM
      have HV4 : Hid (PartsS S w2 (.slice (some ⟨b, 0, none⟩) n cap)) := PartsS.stays S _ _ _ _ HM4.out (kind1.refl _) HV.out
      obtain ⟨f, a0, a1, b2, n2, c2, b3, n3, c3, a4, a5, b6, n6, c6, b7, n7, c7, a8, a9, b10, n10, c10, b11, n11, c11, hS, hr, e0, e1, e4, e5, e8, e9, g0, g1, g2, g3, g4, g5, g6, g7, g8, g9, g10, g11, q0, q1, q4, q5, q8, q9, t2, t3, t6, t7, t10, t11⟩ := PartsS.at HV4.out j hlt
      go_wp2_with fail
      have HT2 : Hid (ValsS S w2 (.slice (some ⟨b3, 0, none⟩) n3 c3)) := t3
      clear hS hr e0 e1 e4 e5 e8 e9 g0 g1 g2 g3 g4 g5 g6 g7 g8 g9 g10 g11 q0 q1 q4 q5 q8 q9 t2 t3 t6 t7 t10 t11
      obtain ⟨u3, hu3⟩ : ∃ u, u = w2 := ⟨_, rfl⟩
      rw [← hu3] at HM4 HV4 HT2 ⊢
      clear hu3
      refine (markValS_shape S _ K1 _ HT2.out (by omega)).mono ?_
      rintro e w3 ⟨K2, rfl, hK2, hM⟩
      have HM5 : Hid (Marks S w w3) := HM4.out.trans hM
      clear hM
      have HV5 : Hid (PartsS S w3 (.slice (some ⟨b, 0, none⟩) n cap)) := PartsS.stays S _ _ _ _ HM5.out (kind1.refl _) HV.out
      obtain ⟨f, a0, a1, b2, n2, c2, b3, n3, c3, a4, a5, b6, n6, c6, b7, n7, c7, a8, a9, b10, n10, c10, b11, n11, c11, hS, hr, e0, e1, e4, e5, e8, e9, g0, g1, g2, g3, g4, g5, g6, g7, g8, g9, g10, g11, q0, q1, q4, q5, q8, q9, t2, t3, t6, t7, t10, t11⟩ := PartsS.at HV5.out j hlt
      go_wp2_with fail
      have MS0 : Marks S w3 (w3.setCell ⟨b, j * 12 + 4, none⟩ (.int .i64 ((K2 : Int)))) := Marks.set hS hr fun _ => by show kind1 (f (j * 12 + 4)) _; rw [e4]; exact Or.inr (Or.inl ⟨_, _, rfl, rfl⟩)
      have HM6 : Hid (Marks S w (w3.setCell ⟨b, j * 12 + 4, none⟩ (.int .i64 ((K2 : Int))))) := HM5.out.trans MS0
      have HV6 : Hid (PartsS S (w3.setCell ⟨b, j * 12 + 4, none⟩ (.int .i64 ((K2 : Int)))) (.slice (some ⟨b, 0, none⟩) n cap)) := PartsS.stays S _ _ _ _ HM6.out (kind1.refl _) HV.out
      clear MS0
      clear hS hr e0 e1 e4 e5 e8 e9 g0 g1 g2 g3 g4 g5 g6 g7 g8 g9 g10 g11 q0 q1 q4 q5 q8 q9 t2 t3 t6 t7 t10 t11
      obtain ⟨u4, hu4⟩ : ∃ u, u = (w3.setCell ⟨b, j * 12 + 4, none⟩ (.int .i64 ((K2 : Int)))) := ⟨_, rfl⟩
      rw [← hu4] at HM6 HV6 ⊢
      clear hu4
      obtain ⟨L4, hL4⟩ : ∃ L : Nat, (K2 : Int) + 1 = (L : Int) := ⟨(K2 + 1), by omega⟩
      rw [hL4]
      refine (markText_any L4 _ (by omega)).mono ?_
      rintro e w4 ⟨rfl, b4x⟩
      generalize (if L4 = 0 then [109, 48] else 109 :: markD L4 []) = txt4
      have HM7 : Hid (Marks S w w4) := HM6.out.below b4x
      clear b4x
      have HV7 : Hid (PartsS S w4 (.slice (some ⟨b, 0, none⟩) n cap)) := PartsS.stays S _ _ _ _ HM7.out (kind1.refl _) HV.out
      obtain ⟨f, a0, a1, b2, n2, c2, b3, n3, c3, a4, a5, b6, n6, c6, b7, n7, c7, a8, a9, b10, n10, c10, b11, n11, c11, hS, hr, e0, e1, e4, e5, e8, e9, g0, g1, g2, g3, g4, g5, g6, g7, g8, g9, g10, g11, q0, q1, q4, q5, q8, q9, t2, t3, t6, t7, t10, t11⟩ := PartsS.at HV7.out j hlt
      go_wp2_with fail
      have MS0 : Marks S w4 (w4.setCell ⟨b, j * 12 + 5, none⟩ (.string ⟨txt4.toArray⟩)) := Marks.set hS hr fun _ => by show kind1 (f (j * 12 + 5)) _; rw [e5]; exact Or.inr (Or.inr (Or.inl ⟨_, _, rfl, rfl⟩))
      have HM8 : Hid (Marks S w (w4.setCell ⟨b, j * 12 + 5, none⟩ (.string ⟨txt4.toArray⟩))) := HM7.out.trans MS0
      have HV8 : Hid (PartsS S (w4.setCell ⟨b, j * 12 + 5, none⟩ (.string ⟨txt4.toArray⟩)) (.slice (some ⟨b, 0, none⟩) n cap)) := PartsS.stays S _ _ _ _ HM8.out (kind1.refl _) HV.out
      have HT3 : Hid (ColsS S (w4.setCell ⟨b, j * 12 + 5, none⟩ (.string ⟨txt4.toArray⟩)) (.slice (some ⟨b6, 0, none⟩) n6 c6)) := ColsS.stays S _ _ _ _ MS0 (kind1.refl _) t6
      clear MS0
      clear hS hr e0 e1 e4 e5 e8 e9 g0 g1 g2 g3 g4 g5 g6 g7 g8 g9 g10 g11 q0 q1 q4 q5 q8 q9 t2 t3 t6 t7 t10 t11
      obtain ⟨u5, hu5⟩ : ∃ u, u = (w4.setCell ⟨b, j * 12 + 5, none⟩ (.string ⟨txt4.toArray⟩)) := ⟨_, rfl⟩
      rw [← hu5] at HM8 HV8 HT3 ⊢
      clear hu5
      obtain ⟨L5, hL5⟩ : ∃ L : Nat, (L4 : Int) + 1 = (L : Int) := ⟨(L4 + 1), by omega⟩
      rw [hL5]
      refine (markColS_shape S _ L5 _ HT3.out (by omega)).mono ?_
      rintro e w5 ⟨K3, rfl, hK3, hM⟩
      have HM9 : Hid (Marks S w w5) := HM8.out.trans hM
      clear hM
      have HV9 : Hid (PartsS S w5 (.slice (some ⟨b, 0, none⟩) n cap)) := PartsS.stays S _ _ _ _ HM9.out (kind1.refl _) HV.out
      obtain ⟨f, a0, a1, b2, n2, c2, b3, n3, c3, a4, a5, b6, n6, c6, b7, n7, c7, a8, a9, b10, n10, c10, b11, n11, c11, hS, hr, e0, e1, e4, e5, e8, e9, g0, g1, g2, g3, g4, g5, g6, g7, g8, g9, g10, g11, q0, q1, q4, q5, q8, q9, t2, t3, t6, t7, t10, t11⟩ := PartsS.at HV9.out j hlt
      go_wp2_with fail
      have HT4 : Hid (StrsS S w5 (.slice (some ⟨b7, 0, none⟩) n7 c7)) := t7
      clear hS hr e0 e1 e4 e5 e8 e9 g0 g1 g2 g3 g4 g5 g6 g7 g8 g9 g10 g11 q0 q1 q4 q5 q8 q9 t2 t3 t6 t7 t10 t11
      obtain ⟨u6, hu6⟩ : ∃ u, u = w5 := ⟨_, rfl⟩
      rw [← hu6] at HM9 HV9 HT4 ⊢
      clear hu6
      refine (markStringS_shape S _ K3 _ HT4.out (by omega)).mono ?_
      rintro e w6 ⟨K4, rfl, hK4, hM⟩
      have HM10 : Hid (Marks S w w6) := HM9.out.trans hM
      clear hM
      have HV10 : Hid (PartsS S w6 (.slice (some ⟨b, 0, none⟩) n cap)) := PartsS.stays S _ _ _ _ HM10.out (kind1.refl _) HV.out
      obtain ⟨f, a0, a1, b2, n2, c2, b3, n3, c3, a4, a5, b6, n6, c6, b7, n7, c7, a8, a9, b10, n10, c10, b11, n11, c11, hS, hr, e0, e1, e4, e5, e8, e9, g0, g1, g2, g3, g4, g5, g6, g7, g8, g9, g10, g11, q0, q1, q4, q5, q8, q9, t2, t3, t6, t7, t10, t11⟩ := PartsS.at HV10.out j hlt
      go_wp2_with fail
      clear hS hr e0 e1 e4 e5 e8 e9 g0 g1 g2 g3 g4 g5 g6 g7 g8 g9 g10 g11 q0 q1 q4 q5 q8 q9 t2 t3 t6 t7 t10 t11
      obtain ⟨u7, hu7⟩ : ∃ u, u = w6 := ⟨_, rfl⟩
      rw [← hu7] at HM10 HV10 ⊢
      clear hu7
      refine (markText_any K4 _ (by omega)).mono ?_
      rintro e w7 ⟨rfl, b7x⟩
      generalize (if K4 = 0 then [109, 48] else 109 :: markD K4 []) = txt7
      have HM11 : Hid (Marks S w w7) := HM10.out.below b7x
      clear b7x
      have HV11 : Hid (PartsS S w7 (.slice (some ⟨b, 0, none⟩) n cap)) := PartsS.stays S _ _ _ _ HM11.out (kind1.refl _) HV.out
      obtain ⟨f, a0, a1, b2, n2, c2, b3, n3, c3, a4, a5, b6, n6, c6, b7, n7, c7, a8, a9, b10, n10, c10, b11, n11, c11, hS, hr, e0, e1, e4, e5, e8, e9, g0, g1, g2, g3, g4, g5, g6, g7, g8, g9, g10, g11, q0, q1, q4, q5, q8, q9, t2, t3, t6, t7, t10, t11⟩ := PartsS.at HV11.out j hlt
      go_wp2_with fail
      have MS0 : Marks S w7 (w7.setCell ⟨b, j * 12 + 8, none⟩ (.string ⟨txt7.toArray⟩)) := Marks.set hS hr fun _ => by show kind1 (f (j * 12 + 8)) _; rw [e8]; exact Or.inr (Or.inr (Or.inl ⟨_, _, rfl, rfl⟩))
      have HM12 : Hid (Marks S w (w7.setCell ⟨b, j * 12 + 8, none⟩ (.string ⟨txt7.toArray⟩))) := HM11.out.trans MS0
      have HV12 : Hid (PartsS S (w7.setCell ⟨b, j * 12 + 8, none⟩ (.string ⟨txt7.toArray⟩)) (.slice (some ⟨b, 0, none⟩) n cap)) := PartsS.stays S _ _ _ _ HM12.out (kind1.refl _) HV.out
      clear MS0
      clear hS hr e0 e1 e4 e5 e8 e9 g0 g1 g2 g3 g4 g5 g6 g7 g8 g9 g10 g11 q0 q1 q4 q5 q8 q9 t2 t3 t6 t7 t10 t11
      obtain ⟨u8, hu8⟩ : ∃ u, u = (w7.setCell ⟨b, j * 12 + 8, none⟩ (.string ⟨txt7.toArray⟩)) := ⟨_, rfl⟩
      rw [← hu8] at HM12 HV12 ⊢
      clear hu8
      obtain ⟨L8, hL8⟩ : ∃ L : Nat, (K4 : Int) + 1 = (L : Int) := ⟨(K4 + 1), by omega⟩
      rw [hL8]
      refine (markText_any L8 _ (by omega)).mono ?_
      rintro e w8 ⟨rfl, b8x⟩
      generalize (if L8 = 0 then [109, 48] else 109 :: markD L8 []) = txt8
      have HM13 : Hid (Marks S w w8) := HM12.out.below b8x
      clear b8x
      have HV13 : Hid (PartsS S w8 (.slice (some ⟨b, 0, none⟩) n cap)) := PartsS.stays S _ _ _ _ HM13.out (kind1.refl _) HV.out
      obtain ⟨f, a0, a1, b2, n2, c2, b3, n3, c3, a4, a5, b6, n6, c6, b7, n7, c7, a8, a9, b10, n10, c10, b11, n11, c11, hS, hr, e0, e1, e4, e5, e8, e9, g0, g1, g2, g3, g4, g5, g6, g7, g8, g9, g10, g11, q0, q1, q4, q5, q8, q9, t2, t3, t6, t7, t10, t11⟩ := PartsS.at HV13.out j hlt
      go_wp2_with fail
      have MS0 : Marks S w8 (w8.setCell ⟨b, j * 12 + 9, none⟩ (.string ⟨txt8.toArray⟩)) := Marks.set hS hr fun _ => by show kind1 (f (j * 12 + 9)) _; rw [e9]; exact Or.inr (Or.inr (Or.inl ⟨_, _, rfl, rfl⟩))
      have HM14 : Hid (Marks S w (w8.setCell ⟨b, j * 12 + 9, none⟩ (.string ⟨txt8.toArray⟩))) := HM13.out.trans MS0
      have HV14 : Hid (PartsS S (w8.setCell ⟨b, j * 12 + 9, none⟩ (.string ⟨txt8.toArray⟩)) (.slice (some ⟨b, 0, none⟩) n cap)) := PartsS.stays S _ _ _ _ HM14.out (kind1.refl _) HV.out
      have HT5 : Hid (StrsS S (w8.setCell ⟨b, j * 12 + 9, none⟩ (.string ⟨txt8.toArray⟩)) (.slice (some ⟨b10, 0, none⟩) n10 c10)) := StrsS.stays S _ _ _ _ MS0 (kind1.refl _) t10
      clear MS0
      clear hS hr e0 e1 e4 e5 e8 e9 g0 g1 g2 g3 g4 g5 g6 g7 g8 g9 g10 g11 q0 q1 q4 q5 q8 q9 t2 t3 t6 t7 t10 t11
      obtain ⟨u9, hu9⟩ : ∃ u, u = (w8.setCell ⟨b, j * 12 + 9, none⟩ (.string ⟨txt8.toArray⟩)) := ⟨_, rfl⟩
      rw [← hu9] at HM14 HV14 HT5 ⊢
      clear hu9
      obtain ⟨L9, hL9⟩ : ∃ L : Nat, (L8 : Int) + 1 = (L : Int) := ⟨(L8 + 1), by omega⟩
      rw [hL9]
      refine (markStringS_shape S _ L9 _ HT5.out (by omega)).mono ?_
      rintro e w9 ⟨K5, rfl, hK5, hM⟩
      have HM15 : Hid (Marks S w w9) := HM14.out.trans hM
      clear hM
      have HV15 : Hid (PartsS S w9 (.slice (some ⟨b, 0, none⟩) n cap)) := PartsS.stays S _ _ _ _ HM15.out (kind1.refl _) HV.out
      obtain ⟨f, a0, a1, b2, n2, c2, b3, n3, c3, a4, a5, b6, n6, c6, b7, n7, c7, a8, a9, b10, n10, c10, b11, n11, c11, hS, hr, e0, e1, e4, e5, e8, e9, g0, g1, g2, g3, g4, g5, g6, g7, g8, g9, g10, g11, q0, q1, q4, q5, q8, q9, t2, t3, t6, t7, t10, t11⟩ := PartsS.at HV15.out j hlt
      go_wp2_with fail
      have HT6 : Hid (StrsS S w9 (.slice (some ⟨b11, 0, none⟩) n11 c11)) := t11
      clear hS hr e0 e1 e4 e5 e8 e9 g0 g1 g2 g3 g4 g5 g6 g7 g8 g9 g10 g11 q0 q1 q4 q5 q8 q9 t2 t3 t6 t7 t10 t11
      obtain ⟨u10, hu10⟩ : ∃ u, u = w9 := ⟨_, rfl⟩
      rw [← hu10] at HM15 HV15 HT6 ⊢
      clear hu10
      refine (markStringS_shape S _ K5 _ HT6.out (by omega)).mono ?_
      rintro e w10 ⟨K6, rfl, hK6, hM⟩
      have HM16 : Hid (Marks S w w10) := HM15.out.trans hM
      clear hM
      have HV16 : Hid (PartsS S w10 (.slice (some ⟨b, 0, none⟩) n cap)) := PartsS.stays S _ _ _ _ HM16.out (kind1.refl _) HV.out
      obtain ⟨f, a0, a1, b2, n2, c2, b3, n3, c3, a4, a5, b6, n6, c6, b7, n7, c7, a8, a9, b10, n10, c10, b11, n11, c11, hS, hr, e0, e1, e4, e5, e8, e9, g0, g1, g2, g3, g4, g5, g6, g7, g8, g9, g10, g11, q0, q1, q4, q5, q8, q9, t2, t3, t6, t7, t10, t11⟩ := PartsS.at HV16.out j hlt
      go_wp2
      clear hS hr e0 e1 e4 e5 e8 e9 g0 g1 g2 g3 g4 g5 g6 g7 g8 g9 g10 g11 q0 q1 q4 q5 q8 q9 t2 t3 t6 t7 t10 t11
      go_round
      case rel => exact ⟨j + 1, K6, by omega, by go_num, by go_num, by omega, HM16⟩
      case measure => simp [intOf]; omega
    · have hlti : (n : Int) ≤ j := by omega
      go_wp2
      go_ret
      exact ⟨K, rfl, by omega, HM0.out⟩
end Go.Proofs.Ytbjnonondnemhab
