/- The contract of the given ValText, and of what reads half a byte. -/
import Derived.Test.YtmkgbdgafjeeiamDoorUnesc
namespace Go.Proofs.YtmkgbdgafjeeiamDoor
open Go.ChangeShapes Go.WideShapes Go.ChangeAt Go.RowKit

set_option maxRecDepth 100000 in
theorem hex_spec (d : Int) (h0 : 0 ≤ d) (h1 : d < 16) (w : World) : Calls Tryd.prog 41 #[.int .i64 d] w fun e w' => e = .returned (.int .u8 (hexB d.toNat).toNat) ∧ w' = w := by
  have HX : Hid (∀ (j : Nat) (h : j < 16), j = d.toNat → hexA[j]'h = hexB d.toNat) := fun j h e => hexB_eq _ _ h e.symm
  generalize hexB d.toNat = x at HX
  go_enter Tryd.func41, Tryd.ntmps41
  go_wp2
  go_ret
  exact ⟨ret_u8 (by rw [HX.out _ _ (by omega)]), rfl⟩

set_option maxRecDepth 100000 in
set_option maxHeartbeats 1000000 in
theorem valText_spec_not (ty n : Int) (s : ByteArray) (h : okB ty n s = false) (w : World) : Calls Tryd.prog 31 #[V ty n s] w fun e w' => e = .returned (.string noS) ∧ Below w.heap.size w w' := by
  have HK : Hid (okB ty n s = _) := h
  clear h
  go_enter Tryd.func31, Tryd.ntmps31
  go_wp2_with fail
  refine (ok_spec _ _ _ _).mono ?_
  rw [HK.out]
  rintro e w' ⟨rfl, rfl⟩
  go_wp2
  go_ret
  exact ⟨rfl, by repeat (first | exact Below.refl _ _ | refine Below.drew ?_ | refine below_draws _ ?_ | (refine Below.setCell ?_ (by first | (simp; done) | (simp; omega) | omega) _) | (refine Below.alloc ?_ (by first | (simp; done) | (simp; omega) | omega) _) | (refine below_of (by assumption) ?_ (by first | (simp; done) | (simp; omega) | omega)))⟩

set_option maxRecDepth 100000 in
set_option maxHeartbeats 1000000 in
theorem valText_spec_null (h : okB 0 0 noS = true) (w : World) : Calls Tryd.prog 31 #[V 0 0 noS] w fun e w' => e = .returned (.string tNull) ∧ Below w.heap.size w w' := by
  have HK : Hid (okB 0 0 noS = _) := h
  clear h
  go_enter Tryd.func31, Tryd.ntmps31
  go_wp2_with fail
  refine (ok_spec _ _ _ _).mono ?_
  rw [HK.out]
  rintro e w' ⟨rfl, rfl⟩
  go_wp2
  go_ret
  exact ⟨rfl, by repeat (first | exact Below.refl _ _ | refine Below.drew ?_ | refine below_draws _ ?_ | (refine Below.setCell ?_ (by first | (simp; done) | (simp; omega) | omega) _) | (refine Below.alloc ?_ (by first | (simp; done) | (simp; omega) | omega) _) | (refine below_of (by assumption) ?_ (by first | (simp; done) | (simp; omega) | omega)))⟩

set_option maxRecDepth 100000 in
set_option maxHeartbeats 1000000 in
theorem valText_spec_bool (n : Int) (h : okB 1 n noS = true) (w : World) : Calls Tryd.prog 31 #[V 1 n noS] w fun e w' => e = .returned (.string (bS (n == 1))) ∧ Below w.heap.size w w' := by
  have HK : Hid (okB 1 n noS = _) := h
  clear h
  go_enter Tryd.func31, Tryd.ntmps31
  go_wp2_with fail
  refine (ok_spec _ _ _ _).mono ?_
  rw [HK.out]
  rintro e w' ⟨rfl, rfl⟩
  go_wp2_with (go_at_call 42; refine (bool_spec _ _).mono ?_; rintro e w2 ⟨rfl, rfl⟩)
  go_ret
  exact ⟨rfl, by repeat (first | exact Below.refl _ _ | refine Below.drew ?_ | refine below_draws _ ?_ | (refine Below.setCell ?_ (by first | (simp; done) | (simp; omega) | omega) _) | (refine Below.alloc ?_ (by first | (simp; done) | (simp; omega) | omega) _) | (refine below_of (by assumption) ?_ (by first | (simp; done) | (simp; omega) | omega)))⟩

set_option maxRecDepth 100000 in
set_option maxHeartbeats 1000000 in
theorem valText_spec_int (n : Int) (h : okB 2 n noS = true) (w : World) : Calls Tryd.prog 31 #[V 2 n noS] w fun e w' => e = .returned (str (numText n)) ∧ Below w.heap.size w w' := by
  have HK : Hid (okB 2 n noS = _) := h
  have HS : Hid (∀ w : World, Calls Tryd.prog 40 #[.int .i64 n] w fun e w' => e = .returned (str (numText n)) ∧ Below w.heap.size w w') := fun w => numText_spec n w
  generalize numText n = L at HS
  clear h
  go_enter Tryd.func31, Tryd.ntmps31
  go_wp2_with fail
  refine (ok_spec _ _ _ _).mono ?_
  rw [HK.out]
  rintro e w' ⟨rfl, rfl⟩
  go_wp2_with fail
  refine (HS.out _).mono ?_
  rintro e w2 ⟨rfl, hb2⟩
  go_wp2
  go_ret
  exact ⟨rfl, by repeat (first | exact Below.refl _ _ | refine Below.drew ?_ | refine below_draws _ ?_ | (refine Below.setCell ?_ (by first | (simp; done) | (simp; omega) | omega) _) | (refine Below.alloc ?_ (by first | (simp; done) | (simp; omega) | omega) _) | (refine below_of (by assumption) ?_ (by first | (simp; done) | (simp; omega) | omega)))⟩

set_option maxRecDepth 100000 in
set_option maxHeartbeats 1000000 in
theorem valText_spec_text (s : ByteArray) (hs : s.size ≤ 30) (h : okB 3 0 s = true) (w : World) : Calls Tryd.prog 31 #[V 3 0 s] w fun e w' => e = .returned (str (quoted s)) ∧ Below w.heap.size w w' := by
  have HK : Hid (okB 3 0 s = _) := h
  clear h
  go_enter Tryd.func31, Tryd.ntmps31
  go_wp2_with fail
  refine (ok_spec _ _ _ _).mono ?_
  rw [HK.out]
  rintro e w' ⟨rfl, rfl⟩
  go_wp2
  go_loopw [3, 4] (fun v i wr => ∃ k : Nat, k ≤ s.size ∧ i = .int .i64 k ∧ OwnT (w.heap.size + 2) wr v (G s k) ∧ Below (w.heap.size + 2) ((w.alloc (.cells #[.int .i64 3, .int .i64 0, .string s] 23)).alloc (.cells #[.int .i64 3, .int .i64 0, .string s] 23)) wr) (fun _ i _ => s.size - (intOf i).toNat)
  case atStart =>
    exact ⟨0, Nat.zero_le _, rfl, by rw [G_zero]; have h1 := own_onw (w.heap.size + 2) ((w.alloc (.cells #[.int .i64 3, .int .i64 0, .string s] 23)).alloc (.cells #[.int .i64 3, .int .i64 0, .string s] 23)) 39 (by simp); simp only [World.size_alloc] at h1; exact h1, (Below.refl _ _).alloc (by first | (simp; done) | (simp; omega) | omega) _⟩
  case round =>
    obtain ⟨k, hk, rfl, hown, hbel⟩ := hrel
    have hz : w.heap.size + 2 ≤ wr.heap.size := by have := hbel.size; simp at this; omega
    obtain ⟨hc, hf⟩ := bcell hbel
    have hgl := G_len s k
    have hc2 : wr.cell? ⟨w.heap.size, 2, none⟩ = some (.string s) := by rw [hc _ _ (by omega)]; simp [go_sem]
    have hz1 : w.heap.size < wr.heap.size := by omega
    clear hc hf
    by_cases hlt : k < s.size
    · have HG : Hid (G s (k + 1) = _) := G_succ s k hlt
      have hcl := s[k].toNat_lt
      cases hp : plainB s[k]
      · have HP : Hid (plainB s[k] = _) := hp
        have HE : Hid (escB s[k] = [37, hexB (s[k].toNat / 16), hexB (s[k].toNat % 16)]) := by show _ = _; rw [escB, if_neg (by rw [hp]; decide)]
        unfold plainB at hp
        by_cases c1 : 33 ≤ (s[k].toNat : Int)
        · by_cases c2 : (s[k].toNat : Int) ≤ 126
          · cases d3 : ((s[k].toNat : Int) != 39)
            · clear hp
              go_wp2_with (first | (go_at_call 41; refine (hex_spec _ (by omega) (by omega) _).mono ?_; rintro e w' ⟨rfl, hw⟩; subst w') | (at_builtin; refine app_list rfl (.tmp 53) (.tmp 62) rfl (w.heap.size + 2) _ (G s k) rfl (hown.alloc _) ⟨wr.heap.size, 0, none⟩ 3 3 [37, _, _] rfl rfl (cells3_new wr _ _ _) (by omega) (by simp; omega) ?_; intro v' w1 hown1 hb1))
              go_roundw
              case rel => exact ⟨k + 1, by omega, by go_num, by rw [HG.out, HE.out]; exact hown1, (hbel.alloc hz _).trans hb1⟩
              case measure => simp [intOf]; omega
            · have d4 : ((s[k].toNat : Int) != 37) = false := by simpa [c1, c2, d3] using hp
              clear hp
              go_wp2_with (first | (go_at_call 41; refine (hex_spec _ (by omega) (by omega) _).mono ?_; rintro e w' ⟨rfl, hw⟩; subst w') | (at_builtin; refine app_list rfl (.tmp 53) (.tmp 62) rfl (w.heap.size + 2) _ (G s k) rfl (hown.alloc _) ⟨wr.heap.size, 0, none⟩ 3 3 [37, _, _] rfl rfl (cells3_new wr _ _ _) (by omega) (by simp; omega) ?_; intro v' w1 hown1 hb1))
              go_roundw
              case rel => exact ⟨k + 1, by omega, by go_num, by rw [HG.out, HE.out]; exact hown1, (hbel.alloc hz _).trans hb1⟩
              case measure => simp [intOf]; omega
          · clear hp
            go_wp2_with (first | (go_at_call 41; refine (hex_spec _ (by omega) (by omega) _).mono ?_; rintro e w' ⟨rfl, hw⟩; subst w') | (at_builtin; refine app_list rfl (.tmp 53) (.tmp 62) rfl (w.heap.size + 2) _ (G s k) rfl (hown.alloc _) ⟨wr.heap.size, 0, none⟩ 3 3 [37, _, _] rfl rfl (cells3_new wr _ _ _) (by omega) (by simp; omega) ?_; intro v' w1 hown1 hb1))
            go_roundw
            case rel => exact ⟨k + 1, by omega, by go_num, by rw [HG.out, HE.out]; exact hown1, (hbel.alloc hz _).trans hb1⟩
            case measure => simp [intOf]; omega
        · clear hp
          go_wp2_with (first | (go_at_call 41; refine (hex_spec _ (by omega) (by omega) _).mono ?_; rintro e w' ⟨rfl, hw⟩; subst w') | (at_builtin; refine app_list rfl (.tmp 53) (.tmp 62) rfl (w.heap.size + 2) _ (G s k) rfl (hown.alloc _) ⟨wr.heap.size, 0, none⟩ 3 3 [37, _, _] rfl rfl (cells3_new wr _ _ _) (by omega) (by simp; omega) ?_; intro v' w1 hown1 hb1))
          go_roundw
          case rel => exact ⟨k + 1, by omega, by go_num, by rw [HG.out, HE.out]; exact hown1, (hbel.alloc hz _).trans hb1⟩
          case measure => simp [intOf]; omega
      · have HP : Hid (plainB s[k] = _) := hp
        have HE : Hid (escB s[k] = [s[k]]) := by show _ = _; rw [escB, if_pos hp]
        unfold plainB at hp
        simp only [Bool.and_eq_true, decide_eq_true_eq] at hp
        obtain ⟨⟨⟨c1, c2⟩, c3⟩, c4⟩ := hp
        go_wp2_with (first | (at_builtin; refine app_list rfl (.tmp 49) (.tmp 51) rfl (w.heap.size + 2) _ (G s k) rfl (hown.alloc _) ⟨wr.heap.size, 0, none⟩ 1 1 [s[k]] rfl rfl (cells1_new _ _ _) (by omega) (by simp; omega) ?_; intro v' w1 hown1 hb1))
        go_roundw
        case rel => exact ⟨k + 1, by omega, by go_num, by rw [HG.out, HE.out]; exact hown1, (hbel.alloc hz _).trans hb1⟩
        case measure => simp [intOf]; omega
    · have hk' : k = s.size := by omega
      subst hk'
      go_wp2_with (first | (at_builtin; refine app_list rfl (.tmp 64) (.tmp 65) rfl (w.heap.size + 2) _ (G s s.size) rfl (hown.alloc _) ⟨wr.heap.size, 0, none⟩ 1 1 [39] rfl rfl (cells1_new _ _ _) (by omega) (by simp; omega) ?_; intro v' w1 hown1 hb1; have hcv := own_text hown1))
      go_ret
      exact ⟨rfl, ((((Below.refl _ w).alloc (Nat.le_refl _) _).alloc (by simp) _).trans (hbel.mono (by omega))).trans (((Below.refl _ _).alloc (by omega) _).trans (hb1.mono (by omega)))⟩

/-- spec.ValText -/
theorem valText_spec (ty n : Int) (s : ByteArray) (w : World) : Calls Tryd.prog 31 #[V ty n s] w fun e w' => e = .returned (.string (valText ty n s)) ∧ Below w.heap.size w w' := by
  cases h : okB ty n s
  · have e : valText ty n s = noS := by rw [valText, if_pos h]
    rw [e]; exact valText_spec_not ty n s h w
  have hh : ¬ okB ty n s = false := by rw [h]; simp
  rcases ok_cases ty n s h with ⟨rfl, rfl, rfl⟩ | ⟨rfl, hn, rfl⟩ | ⟨rfl, hn, rfl⟩ | ⟨rfl, rfl, hs⟩
  · have e : valText 0 0 noS = tNull := by rw [valText, if_neg hh, if_pos rfl]
    rw [e]; exact valText_spec_null h w
  · have e : valText 1 n noS = bS (n == 1) := by rw [valText, if_neg hh, if_neg (by decide), if_pos rfl]
    rw [e]; exact valText_spec_bool n h w
  · have e : valText 2 n noS = ⟨(numText n).toArray⟩ := by rw [valText, if_neg hh, if_neg (by decide), if_neg (by decide), if_pos rfl]
    rw [e]; exact valText_spec_int n h w
  · have e : valText 3 0 s = ⟨(quoted s).toArray⟩ := by rw [valText, if_neg hh, if_neg (by decide), if_neg (by decide), if_neg (by decide)]
    rw [e]; exact valText_spec_text s hs h w

set_option maxRecDepth 100000 in
set_option maxHeartbeats 400000 in
/-- spec.l01Half -/
theorem half_spec (c : UInt8) (w : World) : Calls Tryd.prog 30 #[.int .u8 c.toNat] w fun e w' => e = .returned (.int .i64 (halfF c)) ∧ w' = w := by
  go_enter Tryd.func30, Tryd.ntmps30
  go_wp2
  go_loop [3] (fun i => ∃ d : Int, 0 ≤ d ∧ d ≤ 16 ∧ i = .int .i64 d ∧ Hid (∀ j : Nat, (j : Int) < d → hexB j ≠ c)) (fun i => 16 - (intOf i).toNat)
  case atStart => exact ⟨0, by omega, by omega, rfl, fun j hj => by omega⟩
  case round =>
    obtain ⟨d, hd0, hd1, rfl, HD⟩ := hrel
    by_cases hlt : d < 16
    · by_cases he : hexB d.toNat = c
      · have HR : Hid ((halfF c : Int) = d) := by
          have := halfF_at c ⟨d.toNat, by omega⟩ he
          show _ = _
          rw [this]
          simp only
          omega
        have heb : (((hexB d.toNat).toNat : Int) == (c.toNat : Int)) = true := by rw [he]; simp
        clear he
        go_wp2_with (go_at_call 41; refine (hex_spec _ (by omega) (by omega) _).mono ?_; rintro e w' ⟨rfl, hw⟩; subst w')
        go_ret
        exact ⟨ret_int HR.out.symm, rfl⟩
      · have HN : Hid (∀ j : Nat, (j : Int) < d + 1 → hexB j ≠ c) := by
          intro j hj
          by_cases hjd : (j : Int) < d
          · exact HD.out j hjd
          · have : j = d.toNat := by omega
            rw [this]; exact he
        have heb : (((hexB d.toNat).toNat : Int) == (c.toNat : Int)) = false := by
          rw [beq_eq_false_iff_ne]
          intro e
          exact he (UInt8.toNat_inj.1 (by omega))
        clear he
        go_wp2_with (go_at_call 41; refine (hex_spec _ (by omega) (by omega) _).mono ?_; rintro e w' ⟨rfl, hw⟩; subst w')
        go_round
        case rel => exact ⟨d + 1, by omega, by omega, by go_num, HN⟩
        case measure => simp [intOf]; omega
    · have HR : Hid ((halfF c : Int) = 0) := by
        show _ = _
        rw [halfF_none c (fun j hj => HD.out j (by omega))]
        rfl
      go_wp2
      go_ret
      exact ⟨ret_int HR.out.symm, rfl⟩
end Go.Proofs.YtmkgbdgafjeeiamDoor
