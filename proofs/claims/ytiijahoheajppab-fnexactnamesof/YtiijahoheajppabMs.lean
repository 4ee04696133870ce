/- The laws' marks on shapes. -/
import Derived.Test.YtiijahoheajppabTr
namespace Go.Proofs.Ytiijahoheajppab
open Go.ChangeShapes Go.WideShapes Go.ChangeAt Go.RowKit

theorem markV_kind {f : Nat → Value} {w : World} {n k : Nat} (hf : ∀ i, i < n → ∀ j (h : j < [IntS, IntS, StrS].length), [IntS, IntS, StrS][j] w (f (i * [IntS, IntS, StrS].length + j))) (i : Nat) (hi : i < n * 3) : kind1 (f i) (if i < n * 3 then markV k i else f i) := by
  rw [if_pos hi]
  have hq : i / 3 < n := Nat.div_lt_of_lt_mul (by omega)
  have hd : i / 3 * 3 + i % 3 = i := by omega
  have hm : i % 3 < 3 := Nat.mod_lt _ (by omega)
  have h := markV_all k (i / 3) _ rfl
  have h0 := hf (i / 3) hq 0 (by decide)
  have h1 := hf (i / 3) hq 1 (by decide)
  have h2 := hf (i / 3) hq 2 (by decide)
  simp only [List.length_cons, List.length_nil, Nat.zero_add, Nat.reduceAdd, List.getElem_cons_zero, List.getElem_cons_succ, Nat.add_zero] at h0 h1 h2
  rcases (by omega : i % 3 = 0 ∨ i % 3 = 1 ∨ i % 3 = 2) with e | e | e
  · have ei : i = i / 3 * 3 := by omega
    obtain ⟨x, hx⟩ := h0
    rw [ei, hx, h.1]
    exact Or.inr (Or.inl ⟨_, _, rfl, rfl⟩)
  · have ei : i = i / 3 * 3 + 1 := by omega
    obtain ⟨x, hx⟩ := h1
    rw [ei, hx, h.2.1]
    exact Or.inr (Or.inl ⟨_, _, rfl, rfl⟩)
  · have ei : i = i / 3 * 3 + 2 := by omega
    obtain ⟨x, hx⟩ := h2
    rw [ei, hx, h.2.2]
    exact Or.inr (Or.inr (Or.inl ⟨_, _, rfl, rfl⟩))
theorem markValS_shape (S : Nat → Prop) (v : Value) (k : Nat) (w : World) (hv : ValsS S w v) (hk : k ≤ 8000000000000000000) :
    Calls Try.prog 87 #[v, .int .i64 k] w fun e w' => ∃ k' : Nat, e = .returned (.int .i64 k') ∧ k' ≤ k + 3145728 ∧ Marks S w w' := by
  obtain ⟨b, n, cap, f, rfl, hb, hn, hr, hf⟩ := hv
  refine (markValS_any b n cap (n * 3) _ f k w hr (Nat.le_refl _) hn hk).mono ?_
  rintro e w' ⟨rfl, ht, hr'⟩
  exact ⟨k + n * 3, rfl, by omega, Marks.one hb ht hr hr' (markV_kind hf)⟩
theorem markStringS_shape (S : Nat → Prop) (v : Value) (k : Nat) (w : World) (hv : StrsS S w v) (hk : k ≤ 8000000000000000000) :
    Calls Try.prog 12 #[v, .int .i64 k] w fun e w' => ∃ k' : Nat, e = .returned (.int .i64 k') ∧ k' ≤ k + 1048576 ∧ Marks S w w' := by
  obtain ⟨b, n, cap, f, rfl, hb, hn, hr, hf⟩ := hv
  have hr1 : w.rowIs b 9 n f := by simpa using hr
  refine (markStringS_any b n cap n _ f k w hr1 (Nat.le_refl _) hn hk).mono ?_
  rintro e w' ⟨rfl, ht, hr'⟩
  refine ⟨k + n, rfl, by omega, Marks.one hb ht hr1 hr' fun i hi => ?_⟩
  have h := hf i hi 0 (by decide)
  simp only [List.length_cons, List.length_nil, Nat.zero_add, Nat.mul_one, Nat.add_zero, List.getElem_cons_zero] at h
  obtain ⟨x, hx⟩ := h
  rw [if_pos hi, hx]
  exact Or.inr (Or.inr (Or.inl ⟨_, _, rfl, rfl⟩))
set_option maxHeartbeats 1000000 in
theorem markC_kind {f : Nat → Value} {w : World} {n k : Nat} (hf : ∀ i, i < n → ∀ j (h : j < [StrS, IntS, BoolS, BoolS, IntS, IntS, StrS].length), [StrS, IntS, BoolS, BoolS, IntS, IntS, StrS][j] w (f (i * [StrS, IntS, BoolS, BoolS, IntS, IntS, StrS].length + j))) (i : Nat) (hi : i < n * 7) : kind1 (f i) (if i < n * 7 then markC k i else f i) := by
  rw [if_pos hi]
  have hq : i / 7 < n := Nat.div_lt_of_lt_mul (by omega)
  have h := markC_all k (i / 7) _ rfl
  have h0 := hf (i / 7) hq 0 (by decide)
  have h1 := hf (i / 7) hq 1 (by decide)
  have h2 := hf (i / 7) hq 2 (by decide)
  have h3 := hf (i / 7) hq 3 (by decide)
  have h4 := hf (i / 7) hq 4 (by decide)
  have h5 := hf (i / 7) hq 5 (by decide)
  have h6 := hf (i / 7) hq 6 (by decide)
  simp only [List.length_cons, List.length_nil, Nat.zero_add, Nat.reduceAdd, List.getElem_cons_zero, List.getElem_cons_succ, Nat.add_zero] at h0 h1 h2 h3 h4 h5 h6
  rcases (by omega : i % 7 = 0 ∨ i % 7 = 1 ∨ i % 7 = 2 ∨ i % 7 = 3 ∨ i % 7 = 4 ∨ i % 7 = 5 ∨ i % 7 = 6) with e | e | e | e | e | e | e
  · have ei : i = i / 7 * 7 := by omega
    obtain ⟨x, hx⟩ := h0
    rw [ei, hx, h.1]
    exact Or.inr (Or.inr (Or.inl ⟨_, _, rfl, rfl⟩))
  · have ei : i = i / 7 * 7 + 1 := by omega
    obtain ⟨x, hx⟩ := h1
    rw [ei, hx, h.2.1]
    exact Or.inr (Or.inl ⟨_, _, rfl, rfl⟩)
  · have ei : i = i / 7 * 7 + 2 := by omega
    obtain ⟨x, hx⟩ := h2
    rw [ei, hx, h.2.2.1]
    exact Or.inr (Or.inr (Or.inr ⟨_, _, rfl, rfl⟩))
  · have ei : i = i / 7 * 7 + 3 := by omega
    obtain ⟨x, hx⟩ := h3
    rw [ei, hx, h.2.2.2.1]
    exact Or.inr (Or.inr (Or.inr ⟨_, _, rfl, rfl⟩))
  · have ei : i = i / 7 * 7 + 4 := by omega
    obtain ⟨x, hx⟩ := h4
    rw [ei, hx, h.2.2.2.2.1]
    exact Or.inr (Or.inl ⟨_, _, rfl, rfl⟩)
  · have ei : i = i / 7 * 7 + 5 := by omega
    obtain ⟨x, hx⟩ := h5
    rw [ei, hx, h.2.2.2.2.2.1]
    exact Or.inr (Or.inl ⟨_, _, rfl, rfl⟩)
  · have ei : i = i / 7 * 7 + 6 := by omega
    obtain ⟨x, hx⟩ := h6
    rw [ei, hx, h.2.2.2.2.2.2]
    exact Or.inr (Or.inr (Or.inl ⟨_, _, rfl, rfl⟩))
theorem markColS_shape (S : Nat → Prop) (v : Value) (k : Nat) (w : World) (hv : ColsS S w v) (hk : k ≤ 8000000000000000000) :
    Calls Try.prog 86 #[v, .int .i64 k] w fun e w' => ∃ k' : Nat, e = .returned (.int .i64 k') ∧ k' ≤ k + 7340032 ∧ Marks S w w' := by
  obtain ⟨b, n, cap, f, rfl, hb, hn, hr, hf⟩ := hv
  refine (markColS_any b n cap (n * 7) _ f k w hr (Nat.le_refl _) hn hk).mono ?_
  rintro e w' ⟨rfl, ht, hr'⟩
  exact ⟨k + n * 7, rfl, by omega, Marks.one hb ht hr hr' (markC_kind hf)⟩

/-- The i-th element of a list of lists. -/
theorem RowS.inner {S : Nat → Prop} {T : TypeId} {P : Shape} {w : World} {b n cap : Nat} (h : RowS S T [P] w (.slice (some ⟨b, 0, none⟩) n cap)) (i : Nat) (hi : i < n) : ∃ u, w.cell? ⟨b, i, none⟩ = some u ∧ P w u := by
  obtain ⟨b', n', cap', f, e, hb, hn, hr, hf⟩ := h
  cases e
  have h0 := hf i hi 0 (by simp)
  simp only [List.length_cons, List.length_nil, Nat.zero_add, Nat.mul_one, Nat.add_zero, List.getElem_cons_zero] at h0 hr
  exact ⟨f i, hr.cell hi, h0⟩
theorem RowS.lit {S : Nat → Prop} {T : TypeId} {es : List Shape} {w : World} {v : Value} (h : RowS S T es w v) : ∃ b n cap, v = .slice (some ⟨b, 0, none⟩) n cap ∧ n ≤ 1048576 ∧ RowS S T es w (.slice (some ⟨b, 0, none⟩) n cap) := by
  obtain ⟨b, n, cap, f, rfl, hb, hn, h⟩ := h
  exact ⟨b, n, cap, rfl, hn, b, n, cap, f, rfl, hb, hn, h⟩

set_option maxRecDepth 100000 in
set_option maxHeartbeats 1000000 in
/-- laws.markRowS -/
theorem markRowS_shape (S : Nat → Prop) (v : Value) (k : Nat) (w : World) (hv : RowsS S w v) (hk : k ≤ 7900000000000000000) :
    Calls Try.prog 57 #[v, .int .i64 k] w fun e w' => ∃ k' : Nat, e = .returned (.int .i64 k') ∧ k' ≤ k + 3298534883328 ∧ Marks S w w' := by
  obtain ⟨b, n, cap, rfl, hn, hv⟩ := hv.lit
  have HV : Hid (RowsS S w (.slice (some ⟨b, 0, none⟩) n cap)) := hv
  clear hv
  go_enter Try.func57, Try.ntmps57
  go_wp2
  go_loopw [1, 5] (fun c i wr => ∃ (j K : Nat), j ≤ n ∧ i = .int .i64 j ∧ c = .int .i64 K ∧ K ≤ k + j * 3145728 ∧ Hid (Marks S w wr)) (fun _ i _ => n - (intOf i).toNat)
  case atStart => exact ⟨0, k, Nat.zero_le _, rfl, rfl, by omega, Marks.refl _ _⟩
  case round =>
    obtain ⟨j, K, hj, rfl, rfl, hK, HM⟩ := hrel
    by_cases hlt : j < n
    · have hlti : (j : Int) < n := by omega
      have HV1 : Hid (RowsS S wr (.slice (some ⟨b, 0, none⟩) n cap)) := RowsS.stays S _ _ _ _ HM.out (kind1.refl _) HV.out
      obtain ⟨u, c0, hu⟩ := RowS.inner HV1.out j hlt
      obtain ⟨b1, n1, cap1, rfl, hn1, hu⟩ := hu.lit
      have HU : Hid (ValsS S wr (.slice (some ⟨b1, 0, none⟩) n1 cap1)) := hu
      clear hu HV1
      go_wp2_with fail
      refine (markValS_shape S _ K _ HU.out (by omega)).mono ?_
      rintro e w1 ⟨K', rfl, hK', hM⟩
      have HM1 : Hid (Marks S w w1) := HM.out.trans hM
      clear hM
      go_wp2
      go_round
      case rel => exact ⟨j + 1, K', by omega, by go_num, rfl, by omega, HM1⟩
      case measure => simp [intOf]; omega
    · have hlti : (n : Int) ≤ j := by omega
      go_wp2
      go_ret
      exact ⟨K, rfl, by omega, HM.out⟩

set_option maxRecDepth 100000 in
set_option maxHeartbeats 1000000 in
/-- laws.markRowsS -/
theorem markRowsS_shape (S : Nat → Prop) (v : Value) (k : Nat) (w : World) (hv : DataS S w v) (hk : k ≤ 4400000000000000000) :
    Calls Try.prog 30 #[v, .int .i64 k] w fun e w' => ∃ k' : Nat, e = .returned (.int .i64 k') ∧ k' ≤ k + 3458764513820540928 ∧ Marks S w w' := by
  obtain ⟨b, n, cap, rfl, hn, hv⟩ := hv.lit
  have HV : Hid (DataS S w (.slice (some ⟨b, 0, none⟩) n cap)) := hv
  clear hv
  go_enter Try.func30, Try.ntmps30
  go_wp2
  go_loopw [1, 5] (fun c i wr => ∃ (j K : Nat), j ≤ n ∧ i = .int .i64 j ∧ c = .int .i64 K ∧ K ≤ k + j * 3298534883328 ∧ Hid (Marks S w wr)) (fun _ i _ => n - (intOf i).toNat)
  case atStart => exact ⟨0, k, Nat.zero_le _, rfl, rfl, by omega, Marks.refl _ _⟩
  case round =>
    obtain ⟨j, K, hj, rfl, rfl, hK, HM⟩ := hrel
    by_cases hlt : j < n
    · have hlti : (j : Int) < n := by omega
      have HV1 : Hid (DataS S wr (.slice (some ⟨b, 0, none⟩) n cap)) := DataS.stays S _ _ _ _ HM.out (kind1.refl _) HV.out
      obtain ⟨u, c0, hu⟩ := RowS.inner HV1.out j hlt
      obtain ⟨b1, n1, cap1, rfl, hn1, hu⟩ := hu.lit
      have HU : Hid (RowsS S wr (.slice (some ⟨b1, 0, none⟩) n1 cap1)) := hu
      clear hu HV1
      go_wp2_with fail
      refine (markRowS_shape S _ K _ HU.out (by omega)).mono ?_
      rintro e w1 ⟨K', rfl, hK', hM⟩
      have HM1 : Hid (Marks S w w1) := HM.out.trans hM
      clear hM
      go_wp2
      go_round
      case rel => exact ⟨j + 1, K', by omega, by go_num, rfl, by omega, HM1⟩
      case measure => simp [intOf]; omega
    · have hlti : (n : Int) ≤ j := by omega
      go_wp2
      go_ret
      exact ⟨K, rfl, by omega, HM.out⟩


/-- A table among others. -/
theorem TabsS.tab {S : Nat → Prop} {w : World} {b n cap : Nat} (h : TabsS S w (.slice (some ⟨b, 0, none⟩) n cap)) (i : Nat) (hi : i < n) : ∃ f s b1 n1 c1 b2 n2 c2, S b ∧ w.rowIs b 47 (n * 3) f ∧ f (i * 3) = .string s ∧ w.cell? ⟨b, i * 3, none⟩ = some (.string s) ∧ w.cell? ⟨b, i * 3 + 1, none⟩ = some (.slice (some ⟨b1, 0, none⟩) n1 c1) ∧ w.cell? ⟨b, i * 3 + 2, none⟩ = some (.slice (some ⟨b2, 0, none⟩) n2 c2) ∧ w.frozen? ⟨b, i * 3, none⟩ = false ∧ ColsS S w (.slice (some ⟨b1, 0, none⟩) n1 c1) ∧ StrsS S w (.slice (some ⟨b2, 0, none⟩) n2 c2) := by
  obtain ⟨b', n', cap', f, e, hb, hn, hr, hf⟩ := h
  cases e
  have h0 := hf i hi 0 (by simp)
  have h1 := hf i hi 1 (by simp)
  have h2 := hf i hi 2 (by simp)
  simp only [List.length_cons, List.length_nil, Nat.zero_add, Nat.reduceAdd, List.getElem_cons_zero, List.getElem_cons_succ, Nat.add_zero] at h0 h1 h2 hr
  obtain ⟨s, hs⟩ := h0
  obtain ⟨b1, n1, c1, e1, _, h1⟩ := h1.lit
  obtain ⟨b2, n2, c2, e2, _, h2⟩ := h2.lit
  exact ⟨f, s, b1, n1, c1, b2, n2, c2, hb, hr, hs, by rw [← hs]; exact hr.cell (by omega), by rw [← e1]; exact hr.cell (by omega), by rw [← e2]; exact hr.cell (by omega), hr.frozen _, h1, h2⟩

set_option maxRecDepth 100000 in
set_option maxHeartbeats 1000000 in
/-- laws.markTableS -/
theorem markTableS_shape (S : Nat → Prop) (v : Value) (k : Nat) (w : World) (hv : TabsS S w v) (hk : k ≤ 4000000000000000000) :
    Calls Try.prog 56 #[v, .int .i64 k] w fun e w' => ∃ k' : Nat, e = .returned (.int .i64 k') ∧ k' ≤ k + 8796094070784 ∧ Marks S w w' := by
  obtain ⟨b, n, cap, rfl, hn, hv⟩ := hv.lit
  have HV : Hid (TabsS S w (.slice (some ⟨b, 0, none⟩) n cap)) := hv
  clear hv
  go_enter Try.func56, Try.ntmps56
  go_wp2
  go_loopw [1, 5] (fun c i wr => ∃ (j K : Nat), j ≤ n ∧ i = .int .i64 j ∧ c = .int .i64 K ∧ K ≤ k + j * 8388609 ∧ Hid (Marks S w wr)) (fun _ i _ => n - (intOf i).toNat)
  case atStart => exact ⟨0, k, Nat.zero_le _, rfl, rfl, by omega, Marks.refl _ _⟩
  case round =>
    obtain ⟨j, K, hj, rfl, rfl, hK, HM⟩ := hrel
    by_cases hlt : j < n
    · have hlti : (j : Int) < n := by omega
      have hK9 : K ≤ 5000000000000000000 := by omega
      go_wp2_with fail
      refine (markText_any K _ (by omega)).mono ?_
      rintro e w1 ⟨rfl, b1⟩
      have HM1 : Hid (Marks S w w1) := HM.out.below b1
      have HV1 : Hid (TabsS S w1 (.slice (some ⟨b, 0, none⟩) n cap)) := TabsS.stays S _ _ _ _ HM1.out (kind1.refl _) HV.out
      obtain ⟨f, s, bb, nn, cc, bb', nn', cc', hS, hr, hs, c0, c1, c2, fr, _, _⟩ := TabsS.tab HV1.out j hlt
      generalize (if K = 0 then [109, 48] else 109 :: markD K []) = txt
      have HM2 : Hid (Marks S w (w1.setCell ⟨b, j * 3, none⟩ (.string ⟨txt.toArray⟩))) := HM1.out.trans (Marks.set hS hr fun _ => by rw [hs]; exact Or.inr (Or.inr (Or.inl ⟨_, _, rfl, rfl⟩)))
      have HV2 : Hid (TabsS S (w1.setCell ⟨b, j * 3, none⟩ (.string ⟨txt.toArray⟩)) (.slice (some ⟨b, 0, none⟩) n cap)) := TabsS.stays S _ _ _ _ HM2.out (kind1.refl _) HV.out
      obtain ⟨f2, s2, d1, m1, e1, d2, m2, e2, _, _, _, g0, g1, g2, _, hc, _⟩ := TabsS.tab HV2.out j hlt
      have HC : Hid (ColsS S (w1.setCell ⟨b, j * 3, none⟩ (.string ⟨txt.toArray⟩)) (.slice (some ⟨d1, 0, none⟩) m1 e1)) := hc
      clear hc hr hs b1 HM
      go_wp2_with fail
      rw [show ((K : Int) + 1) = ((K + 1 : Nat) : Int) from by omega]
      refine (markColS_shape S _ (K + 1) _ HC.out (by omega)).mono ?_
      rintro e w3 ⟨K2, rfl, hK2, hM⟩
      have HM3 : Hid (Marks S w w3) := HM2.out.trans hM
      have HV3 : Hid (TabsS S w3 (.slice (some ⟨b, 0, none⟩) n cap)) := TabsS.stays S _ _ _ _ HM3.out (kind1.refl _) HV.out
      clear c0 c1 c2 fr g0 g1 g2 hM
      obtain ⟨f3, s3, d1, m1, e1, d2, m2, e2, _, _, _, g0, g1, g2, _, _, hs3⟩ := TabsS.tab HV3.out j hlt
      have HK : Hid (StrsS S w3 (.slice (some ⟨d2, 0, none⟩) m2 e2)) := hs3
      clear hs3
      go_wp2_with fail
      refine (markStringS_shape S _ K2 _ HK.out (by omega)).mono ?_
      rintro e w4 ⟨K3, rfl, hK3, hM⟩
      have HM4 : Hid (Marks S w w4) := HM3.out.trans hM
      clear hM g0 g1 g2
      go_wp2
      go_round
      case rel => exact ⟨j + 1, K3, by omega, by go_num, rfl, by omega, HM4⟩
      case measure => simp [intOf]; omega
    · have hlti : (n : Int) ≤ j := by omega
      go_wp2
      go_ret
      exact ⟨K, rfl, by omega, HM.out⟩

set_option maxRecDepth 100000 in
/-- laws.markCat -/
theorem markCat_shape (S : Nat → Prop) (v : Value) (k : Nat) (w : World) (hv : TabsS S w v) (hk : k ≤ 4000000000000000000) :
    Calls Try.prog 29 #[.agg #[v], .int .i64 k] w fun e w' => ∃ k' : Nat, e = .returned (.int .i64 k') ∧ k' ≤ k + 8796094070784 ∧ Marks S w w' := by
  obtain ⟨b, n, cap, rfl, hn, hv⟩ := hv.lit
  have HM0 : Hid (Marks S w (w.alloc (.cells #[.slice (some ⟨b, 0, none⟩) n cap] 34))) := (Marks.refl S w).below (ch_alloc (Below.refl _ _) _)
  have HV : Hid (TabsS S (w.alloc (.cells #[.slice (some ⟨b, 0, none⟩) n cap] 34)) (.slice (some ⟨b, 0, none⟩) n cap)) := TabsS.stays S _ _ _ _ HM0.out (kind1.refl _) hv
  clear hv
  go_enter Try.func29, Try.ntmps29
  go_wp2_with fail
  refine (markTableS_shape S _ k _ HV.out hk).mono ?_
  rintro e w1 ⟨K, rfl, hK, hM⟩
  have HM1 : Hid (Marks S w w1) := HM0.out.trans hM
  clear hM
  go_wp2
  go_ret
  exact ⟨K, rfl, hK, HM1.out⟩

set_option maxRecDepth 100000 in
set_option maxHeartbeats 1000000 in
/-- laws.markDb -/
theorem markDb_bound (S : Nat → Prop) (v d : Value) (k : Nat) (w : World) (hv : TabsS S w v) (hd : DataS S w d) (hS : ∀ c, S c → c < w.heap.size) (hk : k ≤ 4000000000000000000) :
    Calls Try.prog 11 #[.agg #[v, d], .int .i64 k] w fun e w' => ∃ k' : Nat, e = .returned (.int .i64 k') ∧ k' ≤ k + 3458773309914611712 ∧ Marks S w w' := by
  obtain ⟨b, n, cap, rfl, hn, hv⟩ := hv.lit
  obtain ⟨b', n', cap', rfl, hn', hd⟩ := hd.lit
  have HM0 : Hid (Marks S w (w.alloc (.cells #[.slice (some ⟨b, 0, none⟩) n cap, .slice (some ⟨b', 0, none⟩) n' cap'] 37))) := (Marks.refl S w).below (ch_alloc (Below.refl _ _) _)
  have HV : Hid (TabsS S (w.alloc (.cells #[.slice (some ⟨b, 0, none⟩) n cap, .slice (some ⟨b', 0, none⟩) n' cap'] 37)) (.slice (some ⟨b, 0, none⟩) n cap)) := TabsS.stays S _ _ _ _ HM0.out (kind1.refl _) hv
  have HD : Hid (DataS S w (.slice (some ⟨b', 0, none⟩) n' cap')) := hd
  have HL := Loc.new w #[.slice (some ⟨b, 0, none⟩) n cap, .slice (some ⟨b', 0, none⟩) n' cap'] 37
  have HS : Hid (∀ c, S c → c < w.heap.size) := hS
  clear hv hd hS
  go_enter Try.func11, Try.ntmps11
  go_wp2_with fail
  refine (markCat_shape S _ k _ HV.out (by omega)).mono ?_
  rintro e w1 ⟨K, rfl, hK, hM⟩
  have hns : ¬ S w.heap.size := fun h => by have := HS.out _ h; omega
  obtain ⟨l0, l1⟩ := HL.two
  have c0 := hM.turns.cell (p := ⟨w.heap.size, 0, none⟩) hns l0
  have c1 := hM.turns.cell (p := ⟨w.heap.size, 1, none⟩) hns l1
  have HM1 : Hid (Marks S w w1) := HM0.out.trans hM
  have HD1 : Hid (DataS S w1 (.slice (some ⟨b', 0, none⟩) n' cap')) := DataS.stays S _ _ _ _ HM1.out (kind1.refl _) HD.out
  clear hM l0 l1
  go_wp2_with fail
  refine (markRowsS_shape S _ K _ HD1.out (by omega)).mono ?_
  rintro e w2 ⟨K2, rfl, hK2, hM⟩
  have HM2 : Hid (Marks S w w2) := HM1.out.trans hM
  clear hM c0 c1
  go_wp2
  go_ret
  exact ⟨K2, rfl, by omega, HM2.out⟩
theorem markDb_shape (S : Nat → Prop) (v d : Value) (k : Nat) (w : World) (hv : TabsS S w v) (hd : DataS S w d) (hS : ∀ c, S c → c < w.heap.size) (hk : k ≤ 300000000000000000) :
    Calls Try.prog 11 #[.agg #[v, d], .int .i64 k] w fun e w' => ∃ k' : Nat, e = .returned (.int .i64 k') ∧ Marks S w w' :=
  (markDb_bound S v d k w hv hd hS (by omega)).mono fun _ _ ⟨k', h1, _, h2⟩ => ⟨k', h1, h2⟩
end Go.Proofs.Ytiijahoheajppab
