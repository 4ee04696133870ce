/- Records behind a slice, marked. Lists of records whose parts all lie in blocks. -/
import Derived.Test.YtmcjchaokpcomaaXl
namespace Go.Proofs.Ytmcjchaokpcomaa
open Go.ChangeShapes Go.WideShapes Go.ChangeAt Go.RowKit

theorem RecsS.at {S : Nat → Prop} {w : World} {b n cap : Nat} (h : RecsS S w (.slice (some ⟨b, 0, none⟩) n cap)) (j : Nat) (hj : j < n) : ∃ f a0 a1 a2 a3 b4 n4 c4 b5 n5 c5 a6 a7 b8 n8 c8 b9 n9 c9 a10 a11, S b ∧ w.rowIs b 44 (n * 12) f ∧ f (j * 12) = .int .i64 a0 ∧ f (j * 12 + 1) = .int .i64 a1 ∧ f (j * 12 + 2) = .int .i64 a2 ∧ f (j * 12 + 3) = .string a3 ∧ f (j * 12 + 6) = .int .i64 a6 ∧ f (j * 12 + 7) = .string a7 ∧ f (j * 12 + 10) = .string a10 ∧ f (j * 12 + 11) = .string a11 ∧ w.cell? ⟨b, j * 12, none⟩ = some (.int .i64 a0) ∧ w.cell? ⟨b, j * 12 + 1, none⟩ = some (.int .i64 a1) ∧ w.cell? ⟨b, j * 12 + 2, none⟩ = some (.int .i64 a2) ∧ w.cell? ⟨b, j * 12 + 3, none⟩ = some (.string a3) ∧ w.cell? ⟨b, j * 12 + 4, none⟩ = some (.slice (some ⟨b4, 0, none⟩) n4 c4) ∧ w.cell? ⟨b, j * 12 + 5, none⟩ = some (.slice (some ⟨b5, 0, none⟩) n5 c5) ∧ w.cell? ⟨b, j * 12 + 6, none⟩ = some (.int .i64 a6) ∧ w.cell? ⟨b, j * 12 + 7, none⟩ = some (.string a7) ∧ w.cell? ⟨b, j * 12 + 8, none⟩ = some (.slice (some ⟨b8, 0, none⟩) n8 c8) ∧ w.cell? ⟨b, j * 12 + 9, none⟩ = some (.slice (some ⟨b9, 0, none⟩) n9 c9) ∧ w.cell? ⟨b, j * 12 + 10, none⟩ = some (.string a10) ∧ w.cell? ⟨b, j * 12 + 11, none⟩ = some (.string a11) ∧ w.frozen? ⟨b, j * 12, none⟩ = false ∧ w.frozen? ⟨b, j * 12 + 1, none⟩ = false ∧ w.frozen? ⟨b, j * 12 + 2, none⟩ = false ∧ w.frozen? ⟨b, j * 12 + 3, none⟩ = false ∧ w.frozen? ⟨b, j * 12 + 6, none⟩ = false ∧ w.frozen? ⟨b, j * 12 + 7, none⟩ = false ∧ w.frozen? ⟨b, j * 12 + 10, none⟩ = false ∧ w.frozen? ⟨b, j * 12 + 11, none⟩ = false ∧ ValsS S w (.slice (some ⟨b4, 0, none⟩) n4 c4) ∧ ValsS S w (.slice (some ⟨b5, 0, none⟩) n5 c5) ∧ ColsS S w (.slice (some ⟨b8, 0, none⟩) n8 c8) ∧ StrsS S w (.slice (some ⟨b9, 0, none⟩) n9 c9) := by
  obtain ⟨b', n', cap', f, e, hb, hn, hr, hf⟩ := h
  cases e
  have h0 := hf j hj 0 (by simp)
  have h1 := hf j hj 1 (by simp)
  have h2 := hf j hj 2 (by simp)
  have h3 := hf j hj 3 (by simp)
  have h4 := hf j hj 4 (by simp)
  have h5 := hf j hj 5 (by simp)
  have h6 := hf j hj 6 (by simp)
  have h7 := hf j hj 7 (by simp)
  have h8 := hf j hj 8 (by simp)
  have h9 := hf j hj 9 (by simp)
  have h10 := hf j hj 10 (by simp)
  have h11 := hf j hj 11 (by simp)
  simp only [List.length_cons, List.length_nil, Nat.zero_add, Nat.reduceAdd, List.getElem_cons_zero, List.getElem_cons_succ, Nat.add_zero] at h0 h1 h2 h3 h4 h5 h6 h7 h8 h9 h10 h11 hr
  obtain ⟨a0, e0⟩ := h0
  obtain ⟨a1, e1⟩ := h1
  obtain ⟨a2, e2⟩ := h2
  obtain ⟨a3, e3⟩ := h3
  obtain ⟨b4, n4, c4, e4, _, h4⟩ := h4.lit
  obtain ⟨b5, n5, c5, e5, _, h5⟩ := h5.lit
  obtain ⟨a6, e6⟩ := h6
  obtain ⟨a7, e7⟩ := h7
  obtain ⟨b8, n8, c8, e8, _, h8⟩ := h8.lit
  obtain ⟨b9, n9, c9, e9, _, h9⟩ := h9.lit
  obtain ⟨a10, e10⟩ := h10
  obtain ⟨a11, e11⟩ := h11
  exact ⟨f, a0, a1, a2, a3, b4, n4, c4, b5, n5, c5, a6, a7, b8, n8, c8, b9, n9, c9, a10, a11, hb, hr, e0, e1, e2, e3, e6, e7, e10, e11, by rw [← e0]; exact hr.cell (by omega), by rw [← e1]; exact hr.cell (by omega), by rw [← e2]; exact hr.cell (by omega), by rw [← e3]; exact hr.cell (by omega), by rw [← e4]; exact hr.cell (by omega), by rw [← e5]; exact hr.cell (by omega), by rw [← e6]; exact hr.cell (by omega), by rw [← e7]; exact hr.cell (by omega), by rw [← e8]; exact hr.cell (by omega), by rw [← e9]; exact hr.cell (by omega), by rw [← e10]; exact hr.cell (by omega), by rw [← e11]; exact hr.cell (by omega), hr.frozen _, hr.frozen _, hr.frozen _, hr.frozen _, hr.frozen _, hr.frozen _, hr.frozen _, hr.frozen _, h4, h5, h8, h9⟩

set_option maxRecDepth 100000 in
set_option maxHeartbeats 4000000 in
theorem markRecS_shape (S : Nat → Prop) (v : Value) (k : Nat) (w : World) (hv : RecsS S w v) (hk : k ≤ 4000000000000000000) :
    Calls Try.prog 18 #[v, .int .i64 k] w fun e w' => ∃ k' : Nat, e = .returned (.int .i64 k') ∧ k' ≤ k + 15393171177472 ∧ Marks S w w' := by
  obtain ⟨b, n, cap, rfl, hn, hv⟩ := hv.lit
  have HV : Hid (RecsS S w (.slice (some ⟨b, 0, none⟩) n cap)) := hv
  clear hv
  go_enter Try.func18, Try.ntmps18
  go_wp2
  go_loopw [1, 5] (fun c i wr => ∃ (j K : Nat), j ≤ n ∧ i = .int .i64 j ∧ c = .int .i64 K ∧ K ≤ k + j * 14680072 ∧ Hid (Marks S w wr)) (fun _ i _ => n - (intOf i).toNat)
  case atStart => exact ⟨0, k, Nat.zero_le _, rfl, rfl, by omega, Marks.refl _ _⟩
  case round =>
    obtain ⟨j, K, hj, rfl, rfl, hK, HM0⟩ := hrel
    by_cases hlt : j < n
    · have hlti : (j : Int) < n := by omega
      have hK9 : K ≤ 4000015393171177472 := by omega
      have HV0 : Hid (RecsS S wr (.slice (some ⟨b, 0, none⟩) n cap)) := RecsS.stays S _ _ _ _ HM0.out (kind1.refl _) HV.out
      obtain ⟨f, a0, a1, a2, a3, b4, n4, c4, b5, n5, c5, a6, a7, b8, n8, c8, b9, n9, c9, a10, a11, hS, hr, e0, e1, e2, e3, e6, e7, e10, e11, g0, g1, g2, g3, g4, g5, g6, g7, g8, g9, g10, g11, q0, q1, q2, q3, q6, q7, q10, q11, t4, t5, t8, t9⟩ := RecsS.at HV0.out j hlt
      go_wp2_with fail
      have MS0 : Marks S wr (wr.setCell ⟨b, j * 12, none⟩ (.int .i64 ((K : Int)))) := Marks.set hS hr fun _ => by show kind1 (f (j * 12)) _; rw [e0]; exact Or.inr (Or.inl ⟨_, _, rfl, rfl⟩)
      have hr1 := hr.set (j * 12) (.int .i64 ((K : Int)))
      have MS1 : Marks S wr ((wr.setCell ⟨b, j * 12, none⟩ (.int .i64 ((K : Int)))).setCell ⟨b, j * 12 + 1, none⟩ (.int .i64 ((K : Int) + 1))) := MS0.trans (Marks.set hS hr1 fun _ => by show kind1 ((if (j * 12 + 1) = (j * 12) then _ else _)) _; rw [if_neg (by omega), e1]; exact Or.inr (Or.inl ⟨_, _, rfl, rfl⟩))
      have hr2 := hr1.set (j * 12 + 1) (.int .i64 ((K : Int) + 1))
      have MS2 : Marks S wr (((wr.setCell ⟨b, j * 12, none⟩ (.int .i64 ((K : Int)))).setCell ⟨b, j * 12 + 1, none⟩ (.int .i64 ((K : Int) + 1))).setCell ⟨b, j * 12 + 2, none⟩ (.int .i64 ((K : Int) + 1 + 1))) := MS1.trans (Marks.set hS hr2 fun _ => by show kind1 ((if (j * 12 + 2) = (j * 12 + 1) then _ else _)) _; rw [if_neg (by omega), if_neg (by omega), e2]; exact Or.inr (Or.inl ⟨_, _, rfl, rfl⟩))
      have HM1 : Hid (Marks S w (((wr.setCell ⟨b, j * 12, none⟩ (.int .i64 ((K : Int)))).setCell ⟨b, j * 12 + 1, none⟩ (.int .i64 ((K : Int) + 1))).setCell ⟨b, j * 12 + 2, none⟩ (.int .i64 ((K : Int) + 1 + 1)))) := HM0.out.trans MS2
      have HV1 : Hid (RecsS S (((wr.setCell ⟨b, j * 12, none⟩ (.int .i64 ((K : Int)))).setCell ⟨b, j * 12 + 1, none⟩ (.int .i64 ((K : Int) + 1))).setCell ⟨b, j * 12 + 2, none⟩ (.int .i64 ((K : Int) + 1 + 1))) (.slice (some ⟨b, 0, none⟩) n cap)) := RecsS.stays S _ _ _ _ HM1.out (kind1.refl _) HV.out
      clear MS0 MS1 MS2 hr1 hr2
      clear hS hr e0 e1 e2 e3 e6 e7 e10 e11 g0 g1 g2 g3 g4 g5 g6 g7 g8 g9 g10 g11 q0 q1 q2 q3 q6 q7 q10 q11 t4 t5 t8 t9
      obtain ⟨u1, hu1⟩ : ∃ u, u = (((wr.setCell ⟨b, j * 12, none⟩ (.int .i64 ((K : Int)))).setCell ⟨b, j * 12 + 1, none⟩ (.int .i64 ((K : Int) + 1))).setCell ⟨b, j * 12 + 2, none⟩ (.int .i64 ((K : Int) + 1 + 1))) := ⟨_, rfl⟩
      rw [← hu1] at HM1 HV1 ⊢
      clear hu1
      obtain ⟨L1, hL1⟩ : ∃ L : Nat, (K : Int) + 1 + 1 + 1 = (L : Int) := ⟨(K + 3), by omega⟩
      rw [hL1]
      refine (markText_any L1 _ (by omega)).mono ?_
      rintro e w1 ⟨rfl, b1x⟩
      generalize (if L1 = 0 then [109, 48] else 109 :: markD L1 []) = txt1
      have HM2 : Hid (Marks S w w1) := HM1.out.below b1x
      clear b1x
      have HV2 : Hid (RecsS S w1 (.slice (some ⟨b, 0, none⟩) n cap)) := RecsS.stays S _ _ _ _ HM2.out (kind1.refl _) HV.out
      obtain ⟨f, a0, a1, a2, a3, b4, n4, c4, b5, n5, c5, a6, a7, b8, n8, c8, b9, n9, c9, a10, a11, hS, hr, e0, e1, e2, e3, e6, e7, e10, e11, g0, g1, g2, g3, g4, g5, g6, g7, g8, g9, g10, g11, q0, q1, q2, q3, q6, q7, q10, q11, t4, t5, t8, t9⟩ := RecsS.at HV2.out j hlt
      go_wp2_with fail
      have MS0 : Marks S w1 (w1.setCell ⟨b, j * 12 + 3, none⟩ (.string ⟨txt1.toArray⟩)) := Marks.set hS hr fun _ => by show kind1 (f (j * 12 + 3)) _; rw [e3]; exact Or.inr (Or.inr (Or.inl ⟨_, _, rfl, rfl⟩))
      have HM3 : Hid (Marks S w (w1.setCell ⟨b, j * 12 + 3, none⟩ (.string ⟨txt1.toArray⟩))) := HM2.out.trans MS0
      have HV3 : Hid (RecsS S (w1.setCell ⟨b, j * 12 + 3, none⟩ (.string ⟨txt1.toArray⟩)) (.slice (some ⟨b, 0, none⟩) n cap)) := RecsS.stays S _ _ _ _ HM3.out (kind1.refl _) HV.out
      have HT1 : Hid (ValsS S (w1.setCell ⟨b, j * 12 + 3, none⟩ (.string ⟨txt1.toArray⟩)) (.slice (some ⟨b4, 0, none⟩) n4 c4)) := ValsS.stays S _ _ _ _ MS0 (kind1.refl _) t4
      clear MS0
      clear hS hr e0 e1 e2 e3 e6 e7 e10 e11 g0 g1 g2 g3 g4 g5 g6 g7 g8 g9 g10 g11 q0 q1 q2 q3 q6 q7 q10 q11 t4 t5 t8 t9
      obtain ⟨u2, hu2⟩ : ∃ u, u = (w1.setCell ⟨b, j * 12 + 3, none⟩ (.string ⟨txt1.toArray⟩)) := ⟨_, rfl⟩
      rw [← hu2] at HM3 HV3 HT1 ⊢
      clear hu2
      obtain ⟨L2, hL2⟩ : ∃ L : Nat, (L1 : Int) + 1 = (L : Int) := ⟨(L1 + 1), by omega⟩
      rw [hL2]
      refine (markValS_shape S _ L2 _ HT1.out (by omega)).mono ?_
      rintro e w2 ⟨K1, rfl, hK1, hM⟩
      have HM4 : Hid (Marks S w w2) := HM3.out.trans hM
      clear hM
      have HV4 : Hid (RecsS S w2 (.slice (some ⟨b, 0, none⟩) n cap)) := RecsS.stays S _ _ _ _ HM4.out (kind1.refl _) HV.out
      obtain ⟨f, a0, a1, a2, a3, b4, n4, c4, b5, n5, c5, a6, a7, b8, n8, c8, b9, n9, c9, a10, a11, hS, hr, e0, e1, e2, e3, e6, e7, e10, e11, g0, g1, g2, g3, g4, g5, g6, g7, g8, g9, g10, g11, q0, q1, q2, q3, q6, q7, q10, q11, t4, t5, t8, t9⟩ := RecsS.at HV4.out j hlt
      go_wp2_with fail
      have HT2 : Hid (ValsS S w2 (.slice (some ⟨b5, 0, none⟩) n5 c5)) := t5
      clear hS hr e0 e1 e2 e3 e6 e7 e10 e11 g0 g1 g2 g3 g4 g5 g6 g7 g8 g9 g10 g11 q0 q1 q2 q3 q6 q7 q10 q11 t4 t5 t8 t9
      obtain ⟨u3, hu3⟩ : ∃ u, u = w2 := ⟨_, rfl⟩
      rw [← hu3] at HM4 HV4 HT2 ⊢
      clear hu3
      refine (markValS_shape S _ K1 _ HT2.out (by omega)).mono ?_
      rintro e w3 ⟨K2, rfl, hK2, hM⟩
      have HM5 : Hid (Marks S w w3) := HM4.out.trans hM
      clear hM
      have HV5 : Hid (RecsS S w3 (.slice (some ⟨b, 0, none⟩) n cap)) := RecsS.stays S _ _ _ _ HM5.out (kind1.refl _) HV.out
      obtain ⟨f, a0, a1, a2, a3, b4, n4, c4, b5, n5, c5, a6, a7, b8, n8, c8, b9, n9, c9, a10, a11, hS, hr, e0, e1, e2, e3, e6, e7, e10, e11, g0, g1, g2, g3, g4, g5, g6, g7, g8, g9, g10, g11, q0, q1, q2, q3, q6, q7, q10, q11, t4, t5, t8, t9⟩ := RecsS.at HV5.out j hlt
      go_wp2_with fail
      have MS0 : Marks S w3 (w3.setCell ⟨b, j * 12 + 6, none⟩ (.int .i64 ((K2 : Int)))) := Marks.set hS hr fun _ => by show kind1 (f (j * 12 + 6)) _; rw [e6]; exact Or.inr (Or.inl ⟨_, _, rfl, rfl⟩)
      have HM6 : Hid (Marks S w (w3.setCell ⟨b, j * 12 + 6, none⟩ (.int .i64 ((K2 : Int))))) := HM5.out.trans MS0
      have HV6 : Hid (RecsS S (w3.setCell ⟨b, j * 12 + 6, none⟩ (.int .i64 ((K2 : Int)))) (.slice (some ⟨b, 0, none⟩) n cap)) := RecsS.stays S _ _ _ _ HM6.out (kind1.refl _) HV.out
      clear MS0
      clear hS hr e0 e1 e2 e3 e6 e7 e10 e11 g0 g1 g2 g3 g4 g5 g6 g7 g8 g9 g10 g11 q0 q1 q2 q3 q6 q7 q10 q11 t4 t5 t8 t9
      obtain ⟨u4, hu4⟩ : ∃ u, u = (w3.setCell ⟨b, j * 12 + 6, none⟩ (.int .i64 ((K2 : Int)))) := ⟨_, rfl⟩
      rw [← hu4] at HM6 HV6 ⊢
      clear hu4
      obtain ⟨L4, hL4⟩ : ∃ L : Nat, (K2 : Int) + 1 = (L : Int) := ⟨(K2 + 1), by omega⟩
      rw [hL4]
      refine (markText_any L4 _ (by omega)).mono ?_
      rintro e w4 ⟨rfl, b4x⟩
      generalize (if L4 = 0 then [109, 48] else 109 :: markD L4 []) = txt4
      have HM7 : Hid (Marks S w w4) := HM6.out.below b4x
      clear b4x
      have HV7 : Hid (RecsS S w4 (.slice (some ⟨b, 0, none⟩) n cap)) := RecsS.stays S _ _ _ _ HM7.out (kind1.refl _) HV.out
      obtain ⟨f, a0, a1, a2, a3, b4, n4, c4, b5, n5, c5, a6, a7, b8, n8, c8, b9, n9, c9, a10, a11, hS, hr, e0, e1, e2, e3, e6, e7, e10, e11, g0, g1, g2, g3, g4, g5, g6, g7, g8, g9, g10, g11, q0, q1, q2, q3, q6, q7, q10, q11, t4, t5, t8, t9⟩ := RecsS.at HV7.out j hlt
      go_wp2_with fail
      have MS0 : Marks S w4 (w4.setCell ⟨b, j * 12 + 7, none⟩ (.string ⟨txt4.toArray⟩)) := Marks.set hS hr fun _ => by show kind1 (f (j * 12 + 7)) _; rw [e7]; exact Or.inr (Or.inr (Or.inl ⟨_, _, rfl, rfl⟩))
      have HM8 : Hid (Marks S w (w4.setCell ⟨b, j * 12 + 7, none⟩ (.string ⟨txt4.toArray⟩))) := HM7.out.trans MS0
      have HV8 : Hid (RecsS S (w4.setCell ⟨b, j * 12 + 7, none⟩ (.string ⟨txt4.toArray⟩)) (.slice (some ⟨b, 0, none⟩) n cap)) := RecsS.stays S _ _ _ _ HM8.out (kind1.refl _) HV.out
      have HT3 : Hid (ColsS S (w4.setCell ⟨b, j * 12 + 7, none⟩ (.string ⟨txt4.toArray⟩)) (.slice (some ⟨b8, 0, none⟩) n8 c8)) := ColsS.stays S _ _ _ _ MS0 (kind1.refl _) t8
      clear MS0
      clear hS hr e0 e1 e2 e3 e6 e7 e10 e11 g0 g1 g2 g3 g4 g5 g6 g7 g8 g9 g10 g11 q0 q1 q2 q3 q6 q7 q10 q11 t4 t5 t8 t9
      obtain ⟨u5, hu5⟩ : ∃ u, u = (w4.setCell ⟨b, j * 12 + 7, none⟩ (.string ⟨txt4.toArray⟩)) := ⟨_, rfl⟩
      rw [← hu5] at HM8 HV8 HT3 ⊢
      clear hu5
      obtain ⟨L5, hL5⟩ : ∃ L : Nat, (L4 : Int) + 1 = (L : Int) := ⟨(L4 + 1), by omega⟩
      rw [hL5]
      refine (markColS_shape S _ L5 _ HT3.out (by omega)).mono ?_
      rintro e w5 ⟨K3, rfl, hK3, hM⟩
      have HM9 : Hid (Marks S w w5) := HM8.out.trans hM
      clear hM
      have HV9 : Hid (RecsS S w5 (.slice (some ⟨b, 0, none⟩) n cap)) := RecsS.stays S _ _ _ _ HM9.out (kind1.refl _) HV.out
      obtain ⟨f, a0, a1, a2, a3, b4, n4, c4, b5, n5, c5, a6, a7, b8, n8, c8, b9, n9, c9, a10, a11, hS, hr, e0, e1, e2, e3, e6, e7, e10, e11, g0, g1, g2, g3, g4, g5, g6, g7, g8, g9, g10, g11, q0, q1, q2, q3, q6, q7, q10, q11, t4, t5, t8, t9⟩ := RecsS.at HV9.out j hlt
      go_wp2_with fail
      have HT4 : Hid (StrsS S w5 (.slice (some ⟨b9, 0, none⟩) n9 c9)) := t9
      clear hS hr e0 e1 e2 e3 e6 e7 e10 e11 g0 g1 g2 g3 g4 g5 g6 g7 g8 g9 g10 g11 q0 q1 q2 q3 q6 q7 q10 q11 t4 t5 t8 t9
      obtain ⟨u6, hu6⟩ : ∃ u, u = w5 := ⟨_, rfl⟩
      rw [← hu6] at HM9 HV9 HT4 ⊢
      clear hu6
      refine (markStringS_shape S _ K3 _ HT4.out (by omega)).mono ?_
      rintro e w6 ⟨K4, rfl, hK4, hM⟩
      have HM10 : Hid (Marks S w w6) := HM9.out.trans hM
      clear hM
      have HV10 : Hid (RecsS S w6 (.slice (some ⟨b, 0, none⟩) n cap)) := RecsS.stays S _ _ _ _ HM10.out (kind1.refl _) HV.out
      obtain ⟨f, a0, a1, a2, a3, b4, n4, c4, b5, n5, c5, a6, a7, b8, n8, c8, b9, n9, c9, a10, a11, hS, hr, e0, e1, e2, e3, e6, e7, e10, e11, g0, g1, g2, g3, g4, g5, g6, g7, g8, g9, g10, g11, q0, q1, q2, q3, q6, q7, q10, q11, t4, t5, t8, t9⟩ := RecsS.at HV10.out j hlt
      go_wp2_with fail
      clear hS hr e0 e1 e2 e3 e6 e7 e10 e11 g0 g1 g2 g3 g4 g5 g6 g7 g8 g9 g10 g11 q0 q1 q2 q3 q6 q7 q10 q11 t4 t5 t8 t9
      obtain ⟨u7, hu7⟩ : ∃ u, u = w6 := ⟨_, rfl⟩
      rw [← hu7] at HM10 HV10 ⊢
      clear hu7
      refine (markText_any K4 _ (by omega)).mono ?_
      rintro e w7 ⟨rfl, b7x⟩
      generalize (if K4 = 0 then [109, 48] else 109 :: markD K4 []) = txt7
      have HM11 : Hid (Marks S w w7) := HM10.out.below b7x
      clear b7x
      have HV11 : Hid (RecsS S w7 (.slice (some ⟨b, 0, none⟩) n cap)) := RecsS.stays S _ _ _ _ HM11.out (kind1.refl _) HV.out
      obtain ⟨f, a0, a1, a2, a3, b4, n4, c4, b5, n5, c5, a6, a7, b8, n8, c8, b9, n9, c9, a10, a11, hS, hr, e0, e1, e2, e3, e6, e7, e10, e11, g0, g1, g2, g3, g4, g5, g6, g7, g8, g9, g10, g11, q0, q1, q2, q3, q6, q7, q10, q11, t4, t5, t8, t9⟩ := RecsS.at HV11.out j hlt
      go_wp2_with fail
      have MS0 : Marks S w7 (w7.setCell ⟨b, j * 12 + 10, none⟩ (.string ⟨txt7.toArray⟩)) := Marks.set hS hr fun _ => by show kind1 (f (j * 12 + 10)) _; rw [e10]; exact Or.inr (Or.inr (Or.inl ⟨_, _, rfl, rfl⟩))
      have HM12 : Hid (Marks S w (w7.setCell ⟨b, j * 12 + 10, none⟩ (.string ⟨txt7.toArray⟩))) := HM11.out.trans MS0
      have HV12 : Hid (RecsS S (w7.setCell ⟨b, j * 12 + 10, none⟩ (.string ⟨txt7.toArray⟩)) (.slice (some ⟨b, 0, none⟩) n cap)) := RecsS.stays S _ _ _ _ HM12.out (kind1.refl _) HV.out
      clear MS0
      clear hS hr e0 e1 e2 e3 e6 e7 e10 e11 g0 g1 g2 g3 g4 g5 g6 g7 g8 g9 g10 g11 q0 q1 q2 q3 q6 q7 q10 q11 t4 t5 t8 t9
      obtain ⟨u8, hu8⟩ : ∃ u, u = (w7.setCell ⟨b, j * 12 + 10, none⟩ (.string ⟨txt7.toArray⟩)) := ⟨_, rfl⟩
      rw [← hu8] at HM12 HV12 ⊢
      clear hu8
      obtain ⟨L8, hL8⟩ : ∃ L : Nat, (K4 : Int) + 1 = (L : Int) := ⟨(K4 + 1), by omega⟩
      rw [hL8]
      refine (markText_any L8 _ (by omega)).mono ?_
      rintro e w8 ⟨rfl, b8x⟩
      generalize (if L8 = 0 then [109, 48] else 109 :: markD L8 []) = txt8
      have HM13 : Hid (Marks S w w8) := HM12.out.below b8x
      clear b8x
      have HV13 : Hid (RecsS S w8 (.slice (some ⟨b, 0, none⟩) n cap)) := RecsS.stays S _ _ _ _ HM13.out (kind1.refl _) HV.out
      obtain ⟨f, a0, a1, a2, a3, b4, n4, c4, b5, n5, c5, a6, a7, b8, n8, c8, b9, n9, c9, a10, a11, hS, hr, e0, e1, e2, e3, e6, e7, e10, e11, g0, g1, g2, g3, g4, g5, g6, g7, g8, g9, g10, g11, q0, q1, q2, q3, q6, q7, q10, q11, t4, t5, t8, t9⟩ := RecsS.at HV13.out j hlt
      go_wp2
      have MS0 : Marks S w8 (w8.setCell ⟨b, j * 12 + 11, none⟩ (.string ⟨txt8.toArray⟩)) := Marks.set hS hr fun _ => by show kind1 (f (j * 12 + 11)) _; rw [e11]; exact Or.inr (Or.inr (Or.inl ⟨_, _, rfl, rfl⟩))
      have HM14 : Hid (Marks S w (w8.setCell ⟨b, j * 12 + 11, none⟩ (.string ⟨txt8.toArray⟩))) := HM13.out.trans MS0
      have HV14 : Hid (RecsS S (w8.setCell ⟨b, j * 12 + 11, none⟩ (.string ⟨txt8.toArray⟩)) (.slice (some ⟨b, 0, none⟩) n cap)) := RecsS.stays S _ _ _ _ HM14.out (kind1.refl _) HV.out
      clear MS0
      clear hS hr e0 e1 e2 e3 e6 e7 e10 e11 g0 g1 g2 g3 g4 g5 g6 g7 g8 g9 g10 g11 q0 q1 q2 q3 q6 q7 q10 q11 t4 t5 t8 t9
      go_round
      case rel => exact ⟨j + 1, (L8 + 1), by omega, by go_num, by go_num, by omega, HM14⟩
      case measure => simp [intOf]; omega
    · have hlti : (n : Int) ≤ j := by omega
      go_wp2
      go_ret
      exact ⟨K, rfl, by omega, HM0.out⟩
end Go.Proofs.Ytmcjchaokpcomaa

namespace Go.Proofs.Ytmcjchaokpcomaa
open Go.ChangeShapes Go.WideShapes Go.ChangeAt Go.RowKit

/-- Records, read, with their shape. -/
def RecsX (w : World) (v : Value) (ts : List Lc) : Prop := RecsV w v ts ∧ ∃ S, RecsS S w v
theorem RecsX.on {w w' : World} {v : Value} {ts : List Lc} (h : RecsX w v ts) (b : Below w.heap.size w w') : RecsX w' v ts := by
  obtain ⟨h1, S, h2⟩ := h
  exact ⟨h1.on b, S, RecsS.good.holds S _ _ _ (fun c _ hl => b.block c hl) h2⟩
theorem RecsX.lit {w : World} {v : Value} {ts : List Lc} (h : RecsX w v ts) : ∃ b cap, v = .slice (some ⟨b, 0, none⟩) ts.length cap ∧ ts.length ≤ cap ∧ cap ≤ maxLen ∧ RecsX w (.slice (some ⟨b, 0, none⟩) ts.length cap) ts := by
  obtain ⟨h1, S, h2⟩ := h
  obtain ⟨a, cap, rfl, g1, g2, g3⟩ := h1.lit
  obtain ⟨b, n, c, e, _, h2'⟩ := h2.lit
  cases e
  exact ⟨b, cap, rfl, g1, g2, g3, S, h2'⟩
theorem RecsX.rec {w : World} {b n cap : Nat} {ts : List Lc} (h : RecsX w (.slice (some ⟨b, 0, none⟩) n cap) ts) (k : Nat) (hk : k < ts.length) : ∃ kb kp rb rp cb cp ob op,
    (ValsV w (.slice (some ⟨kb, 0, none⟩) ts[k].st.key.length kp) ts[k].st.key ∧ ValsV w (.slice (some ⟨rb, 0, none⟩) ts[k].st.row.length rp) ts[k].st.row ∧ ColsV w (.slice (some ⟨cb, 0, none⟩) ts[k].st.ddl.cols.length cp) ts[k].st.ddl.cols ∧ StrsV w (.slice (some ⟨ob, 0, none⟩) ts[k].st.ddl.keys.length op) ts[k].st.ddl.keys) ∧
    w.cell? ⟨b, k * 12, none⟩ = some (.int .i64 ts[k].kind) ∧ w.cell? ⟨b, k * 12 + 1, none⟩ = some (.int .i64 ts[k].xid) ∧ w.cell? ⟨b, k * 12 + 2, none⟩ = some (.int .i64 ts[k].st.kind) ∧ w.cell? ⟨b, k * 12 + 3, none⟩ = some (.string ts[k].st.table) ∧ w.cell? ⟨b, k * 12 + 4, none⟩ = some (.slice (some ⟨kb, 0, none⟩) ts[k].st.key.length kp) ∧ w.cell? ⟨b, k * 12 + 5, none⟩ = some (.slice (some ⟨rb, 0, none⟩) ts[k].st.row.length rp) ∧ w.cell? ⟨b, k * 12 + 6, none⟩ = some (.int .i64 ts[k].st.ddl.kind) ∧ w.cell? ⟨b, k * 12 + 7, none⟩ = some (.string ts[k].st.ddl.table) ∧ w.cell? ⟨b, k * 12 + 8, none⟩ = some (.slice (some ⟨cb, 0, none⟩) ts[k].st.ddl.cols.length cp) ∧ w.cell? ⟨b, k * 12 + 9, none⟩ = some (.slice (some ⟨ob, 0, none⟩) ts[k].st.ddl.keys.length op) ∧ w.cell? ⟨b, k * 12 + 10, none⟩ = some (.string ts[k].st.ddl.name) ∧ w.cell? ⟨b, k * 12 + 11, none⟩ = some (.string ts[k].st.ddl.to) := by
  obtain ⟨h1, S, h2⟩ := h
  have hn : n = ts.length := by
    obtain ⟨a', cap', e, _⟩ := h1.lit
    simp at e
    exact e.2.1
  obtain ⟨b', off, ka, kp, ra, rp, ca, cp, oa, op, ea, hv, d0, d1, d2, d3, d4, d5, d6, d7, d8, d9, d10, d11⟩ := h1.rec k hk
  simp only [Option.some.injEq, Addr.mk.injEq] at ea
  obtain ⟨rfl, rfl, _⟩ := ea
  simp only [Nat.zero_add] at d0 d1 d2 d3 d4 d5 d6 d7 d8 d9 d10 d11
  obtain ⟨f, a0, a1, a2, a3, b4, n4, c4, b5, n5, c5, a6, a7, b8, n8, c8, b9, n9, c9, a10, a11, q⟩ := h2.at k (by omega)
  obtain ⟨_, _, _, _, _, _, _, _, _, _, _, _, _, _, g4, g5, _, _, g8, g9, _⟩ := q
  have e4 := d4.symm.trans g4
  have e5 := d5.symm.trans g5
  have e8 := d8.symm.trans g8
  have e9 := d9.symm.trans g9
  simp only [Option.some.injEq, Value.slice.injEq] at e4 e5 e8 e9
  obtain ⟨rfl, rfl, rfl⟩ := e4
  obtain ⟨rfl, rfl, rfl⟩ := e5
  obtain ⟨rfl, rfl, rfl⟩ := e8
  obtain ⟨rfl, rfl, rfl⟩ := e9
  obtain ⟨k', r', c', o', e, v1, v2, v3, v4⟩ := hv
  simp at e
  obtain ⟨rfl, rfl, rfl, rfl⟩ := e
  exact ⟨_, _, _, _, _, _, _, _, ⟨v1, v2, v3, v4⟩, d0, d1, d2, d3, d4, d5, d6, d7, d8, d9, d10, d11⟩
end Go.Proofs.Ytmcjchaokpcomaa
