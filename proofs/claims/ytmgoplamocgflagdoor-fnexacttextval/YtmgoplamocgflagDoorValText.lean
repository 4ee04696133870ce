/- The contracts of ValText, landed and given. -/
import Derived.Test.YtmgoplamocgflagDoorTextI
import Derived.Test.YtmgoplamocgflagDoorCastF
namespace Go.Proofs.YtmgoplamocgflagDoor
open Go.ChangeShapes Go.WideShapes Go.ChangeAt Go.RowKit

abbrev tNull : ByteArray := ⟨#[110, 117, 108, 108]⟩
/-- What ValText answers. -/
def valText (ty n : Int) (s : ByteArray) : ByteArray :=
  if okB ty n s = false then noS else if ty = 0 then tNull else if ty = 1 then bS (n == 1) else if ty = 2 then ⟨(numText n).toArray⟩ else ⟨(quoted s).toArray⟩

theorem text_null (w : World) : Calls Tryd.prog 85 #[.agg #[]] w fun e w' => e = .returned (.string tNull) ∧ w' = w.alloc (.cells #[] 53) := by
  go_enter Tryd.func85, Tryd.ntmps85
  go_wp2
  go_ret
  exact ⟨rfl, rfl⟩

set_option maxRecDepth 100000 in
theorem valText_not (ty n : Int) (s : ByteArray) (h : okB ty n s = false) (w : World) : Calls Tryd.prog 29 #[V ty n s] w fun e w' => e = .returned (.string noS) ∧ Below w.heap.size w w' := by
  have HK : Hid (okB ty n s = _) := h
  clear h
  go_enter Tryd.func29, Tryd.ntmps29
  go_wp2_with fail
  refine (within_any _ _ _ _).mono ?_
  rw [HK.out]
  rintro e w1 ⟨rfl, k, rfl⟩
  go_wp2
  go_ret
  exact ⟨rfl, by repeat (first | exact Below.refl _ _ | refine Below.drew ?_ | refine below_draws _ ?_ | (refine Below.setCell ?_ (by first | (simp; done) | (simp; omega) | omega) _) | (refine Below.alloc ?_ (by first | (simp; done) | (simp; omega) | omega) _) | (refine below_of (by assumption) ?_ (by first | (simp; done) | (simp; omega) | omega)))⟩

set_option maxRecDepth 100000 in
theorem valText_null (h : okB 0 0 noS = true) (w : World) : Calls Tryd.prog 29 #[V 0 0 noS] w fun e w' => e = .returned (.string tNull) ∧ Below w.heap.size w w' := by
  have HK : Hid (okB 0 0 noS = _) := h
  have f5 := mt_null
  clear h
  go_enter Tryd.func29, Tryd.ntmps29
  go_wp2_with fail
  refine (within_any _ _ _ _).mono ?_
  rw [HK.out, in0]
  rintro e w1 ⟨rfl, k, rfl⟩
  go_wp2_with (go_at_call 85; refine (text_null _).mono ?_; rintro e w2 ⟨rfl, rfl⟩)
  go_ret
  exact ⟨rfl, by repeat (first | exact Below.refl _ _ | refine Below.drew ?_ | refine below_draws _ ?_ | (refine Below.setCell ?_ (by first | (simp; done) | (simp; omega) | omega) _) | (refine Below.alloc ?_ (by first | (simp; done) | (simp; omega) | omega) _) | (refine below_of (by assumption) ?_ (by first | (simp; done) | (simp; omega) | omega)))⟩

set_option maxRecDepth 100000 in
theorem valText_bool (n : Int) (h : okB 1 n noS = true) (w : World) : Calls Tryd.prog 29 #[V 1 n noS] w fun e w' => e = .returned (.string (bS (n == 1))) ∧ Below w.heap.size w w' := by
  have HK : Hid (okB 1 n noS = _) := h
  have f5 := mt_bool (n == 1)
  clear h
  go_enter Tryd.func29, Tryd.ntmps29
  go_wp2_with fail
  refine (within_any _ _ _ _).mono ?_
  rw [HK.out, in1]
  rintro e w1 ⟨rfl, k, rfl⟩
  go_wp2_with (go_at_call 87; refine (text_bool _ _).mono ?_; rintro e w2 ⟨rfl, rfl⟩)
  go_ret
  exact ⟨rfl, by repeat (first | exact Below.refl _ _ | refine Below.drew ?_ | refine below_draws _ ?_ | (refine Below.setCell ?_ (by first | (simp; done) | (simp; omega) | omega) _) | (refine Below.alloc ?_ (by first | (simp; done) | (simp; omega) | omega) _) | (refine below_of (by assumption) ?_ (by first | (simp; done) | (simp; omega) | omega)))⟩

set_option maxRecDepth 100000 in
theorem valText_int (n : Int) (h : okB 2 n noS = true) (w : World) (hT : Tab w) : Calls Tryd.prog 29 #[V 2 n noS] w fun e w' => e = .returned (str (numText n)) ∧ Below w.heap.size w w' := by
  have HK : Hid (okB 2 n noS = _) := h
  have HT : Hid (Tab w) := hT
  have HS : Hid (∀ w : World, Tab w → Calls Tryd.prog 88 #[.int .i64 n] w fun e w' => e = .returned (str (numText n)) ∧ Below w.heap.size w w') := fun w h => text_int n w h
  generalize numText n = L at HS
  have f5 := mt_int n
  clear h hT
  go_enter Tryd.func29, Tryd.ntmps29
  go_wp2_with fail
  refine (within_any _ _ _ _).mono ?_
  rw [HK.out, in2]
  rintro e w1 ⟨rfl, k, rfl⟩
  go_wp2_with (go_at_call 88; refine (HS.out _ (HT.out.on (by repeat (first | exact Below.refl _ _ | refine Below.drew ?_ | refine below_draws _ ?_ | (refine Below.setCell ?_ (by first | (simp; done) | (simp; omega) | omega) _) | (refine Below.alloc ?_ (by first | (simp; done) | (simp; omega) | omega) _) | (refine below_of (by assumption) ?_ (by first | (simp; done) | (simp; omega) | omega)))))).mono ?_; rintro e w2 ⟨rfl, hb2⟩)
  go_ret
  exact ⟨rfl, by repeat (first | exact Below.refl _ _ | refine Below.drew ?_ | refine below_draws _ ?_ | (refine Below.setCell ?_ (by first | (simp; done) | (simp; omega) | omega) _) | (refine Below.alloc ?_ (by first | (simp; done) | (simp; omega) | omega) _) | (refine below_of (by assumption) ?_ (by first | (simp; done) | (simp; omega) | omega)))⟩

set_option maxRecDepth 100000 in
theorem valText_text (s : ByteArray) (hs : s.size ≤ 30) (h : okB 3 0 s = true) (w : World) : Calls Tryd.prog 29 #[V 3 0 s] w fun e w' => e = .returned (str (quoted s)) ∧ Below w.heap.size w w' := by
  have HK : Hid (okB 3 0 s = _) := h
  have HS : Hid (∀ w : World, Calls Tryd.prog 90 #[.string s] w fun e w' => e = .returned (str (quoted s)) ∧ Below w.heap.size w w') := fun w => text_text s (by omega) w
  generalize quoted s = L at HS
  have f5 := mt_text s
  clear h
  go_enter Tryd.func29, Tryd.ntmps29
  go_wp2_with fail
  refine (within_any _ _ _ _).mono ?_
  rw [HK.out, in3]
  rintro e w1 ⟨rfl, k, rfl⟩
  go_wp2_with (go_at_call 90; refine (HS.out _).mono ?_; rintro e w2 ⟨rfl, hb2⟩)
  go_ret
  exact ⟨rfl, by repeat (first | exact Below.refl _ _ | refine Below.drew ?_ | refine below_draws _ ?_ | (refine Below.setCell ?_ (by first | (simp; done) | (simp; omega) | omega) _) | (refine Below.alloc ?_ (by first | (simp; done) | (simp; omega) | omega) _) | (refine below_of (by assumption) ?_ (by first | (simp; done) | (simp; omega) | omega)))⟩

/-- impl.ValText -/
theorem valText_impl (ty n : Int) (s : ByteArray) (w : World) (hT : Tab w) : Calls Tryd.prog 29 #[V ty n s] w fun e w' => e = .returned (.string (valText ty n s)) ∧ Below w.heap.size w w' := by
  cases h : okB ty n s
  · have e : valText ty n s = noS := by rw [valText, if_pos h]
    rw [e]; exact valText_not ty n s h w
  have hh : ¬ okB ty n s = false := by rw [h]; simp
  rcases ok_cases ty n s h with ⟨rfl, rfl, rfl⟩ | ⟨rfl, hn, rfl⟩ | ⟨rfl, hn, rfl⟩ | ⟨rfl, rfl, hs⟩
  · have e : valText 0 0 noS = tNull := by rw [valText, if_neg hh, if_pos rfl]
    rw [e]; exact valText_null h w
  · have e : valText 1 n noS = bS (n == 1) := by rw [valText, if_neg hh, if_neg (by decide), if_pos rfl]
    rw [e]; exact valText_bool n h w
  · have e : valText 2 n noS = ⟨(numText n).toArray⟩ := by rw [valText, if_neg hh, if_neg (by decide), if_neg (by decide), if_pos rfl]
    rw [e]; exact valText_int n h w hT
  · have e : valText 3 0 s = ⟨(quoted s).toArray⟩ := by rw [valText, if_neg hh, if_neg (by decide), if_neg (by decide), if_neg (by decide)]
    rw [e]; exact valText_text s hs h w

theorem ret_u8 {a b : Int} (h : a = b) : Ending.returned (.int .u8 a) = .returned (.int .u8 b) := by rw [h]

set_option maxRecDepth 100000 in
theorem hex_spec (d : Int) (h0 : 0 ≤ d) (h1 : d < 16) (w : World) : Calls Tryd.prog 36 #[.int .i64 d] w fun e w' => e = .returned (.int .u8 (hexB d.toNat).toNat) ∧ w' = w := by
  have HX : Hid (∀ (j : Nat) (h : j < 16), j = d.toNat → hexA[j]'h = hexB d.toNat) := fun j h e => hexB_eq _ _ h e.symm
  generalize hexB d.toNat = x at HX
  go_enter Tryd.func36, Tryd.ntmps36
  go_wp2
  go_ret
  exact ⟨ret_u8 (by rw [HX.out _ _ (by omega)]), rfl⟩

set_option maxRecDepth 100000 in
set_option maxHeartbeats 1000000 in
theorem valText_spec_not (ty n : Int) (s : ByteArray) (h : okB ty n s = false) (w : World) : Calls Tryd.prog 27 #[V ty n s] w fun e w' => e = .returned (.string noS) ∧ Below w.heap.size w w' := by
  have HK : Hid (okB ty n s = _) := h
  clear h
  go_enter Tryd.func27, Tryd.ntmps27
  go_wp2_with fail
  refine (ok_spec _ _ _ _).mono ?_
  rw [HK.out]
  rintro e w' ⟨rfl, rfl⟩
  go_wp2
  go_ret
  exact ⟨rfl, by repeat (first | exact Below.refl _ _ | refine Below.drew ?_ | refine below_draws _ ?_ | (refine Below.setCell ?_ (by first | (simp; done) | (simp; omega) | omega) _) | (refine Below.alloc ?_ (by first | (simp; done) | (simp; omega) | omega) _) | (refine below_of (by assumption) ?_ (by first | (simp; done) | (simp; omega) | omega)))⟩

set_option maxRecDepth 100000 in
set_option maxHeartbeats 1000000 in
theorem valText_spec_null (h : okB 0 0 noS = true) (w : World) : Calls Tryd.prog 27 #[V 0 0 noS] w fun e w' => e = .returned (.string tNull) ∧ Below w.heap.size w w' := by
  have HK : Hid (okB 0 0 noS = _) := h
  clear h
  go_enter Tryd.func27, Tryd.ntmps27
  go_wp2_with fail
  refine (ok_spec _ _ _ _).mono ?_
  rw [HK.out]
  rintro e w' ⟨rfl, rfl⟩
  go_wp2
  go_ret
  exact ⟨rfl, by repeat (first | exact Below.refl _ _ | refine Below.drew ?_ | refine below_draws _ ?_ | (refine Below.setCell ?_ (by first | (simp; done) | (simp; omega) | omega) _) | (refine Below.alloc ?_ (by first | (simp; done) | (simp; omega) | omega) _) | (refine below_of (by assumption) ?_ (by first | (simp; done) | (simp; omega) | omega)))⟩

set_option maxRecDepth 100000 in
set_option maxHeartbeats 1000000 in
theorem valText_spec_bool (n : Int) (h : okB 1 n noS = true) (w : World) : Calls Tryd.prog 27 #[V 1 n noS] w fun e w' => e = .returned (.string (bS (n == 1))) ∧ Below w.heap.size w w' := by
  have HK : Hid (okB 1 n noS = _) := h
  clear h
  go_enter Tryd.func27, Tryd.ntmps27
  go_wp2_with fail
  refine (ok_spec _ _ _ _).mono ?_
  rw [HK.out]
  rintro e w' ⟨rfl, rfl⟩
  go_wp2_with (go_at_call 19; refine (bool_spec _ _).mono ?_; rintro e w2 ⟨rfl, rfl⟩)
  go_ret
  exact ⟨rfl, by repeat (first | exact Below.refl _ _ | refine Below.drew ?_ | refine below_draws _ ?_ | (refine Below.setCell ?_ (by first | (simp; done) | (simp; omega) | omega) _) | (refine Below.alloc ?_ (by first | (simp; done) | (simp; omega) | omega) _) | (refine below_of (by assumption) ?_ (by first | (simp; done) | (simp; omega) | omega)))⟩

set_option maxRecDepth 100000 in
set_option maxHeartbeats 1000000 in
theorem valText_spec_int (n : Int) (h : okB 2 n noS = true) (w : World) : Calls Tryd.prog 27 #[V 2 n noS] w fun e w' => e = .returned (str (numText n)) ∧ Below w.heap.size w w' := by
  have HK : Hid (okB 2 n noS = _) := h
  have HS : Hid (∀ w : World, Calls Tryd.prog 12 #[.int .i64 n] w fun e w' => e = .returned (str (numText n)) ∧ Below w.heap.size w w') := fun w => numText_spec n w
  generalize numText n = L at HS
  clear h
  go_enter Tryd.func27, Tryd.ntmps27
  go_wp2_with fail
  refine (ok_spec _ _ _ _).mono ?_
  rw [HK.out]
  rintro e w' ⟨rfl, rfl⟩
  go_wp2_with fail
  refine (HS.out _).mono ?_
  rintro e w2 ⟨rfl, hb2⟩
  go_wp2
  go_ret
  exact ⟨rfl, by repeat (first | exact Below.refl _ _ | refine Below.drew ?_ | refine below_draws _ ?_ | (refine Below.setCell ?_ (by first | (simp; done) | (simp; omega) | omega) _) | (refine Below.alloc ?_ (by first | (simp; done) | (simp; omega) | omega) _) | (refine below_of (by assumption) ?_ (by first | (simp; done) | (simp; omega) | omega)))⟩

theorem own_onw (B : Nat) (w : World) (x : UInt8) (hB : B ≤ w.heap.size) : Own B (w.alloc (.cells #[.int .u8 x.toNat] 5)) (.slice (some ⟨w.heap.size, 0, none⟩) 1 1) [x] :=
  ⟨rfl, Or.inr ⟨w.heap.size, 1, #[.int .u8 x.toNat], rfl, hB, heap_alloc_new _ _, Nat.le_refl _, by unfold maxLen; omega, rfl, rfl⟩⟩
theorem hi_eq (c : UInt8) : ((c.toNat : Int) / 16).toNat = c.toNat / 16 := by omega
theorem lo_eq (c : UInt8) : ((c.toNat : Int) % 16).toNat = c.toNat % 16 := by omega

set_option maxRecDepth 100000 in
set_option maxHeartbeats 1000000 in
theorem valText_spec_text (s : ByteArray) (hs : s.size ≤ 30) (h : okB 3 0 s = true) (w : World) : Calls Tryd.prog 27 #[V 3 0 s] w fun e w' => e = .returned (str (quoted s)) ∧ Below w.heap.size w w' := by
  have HK : Hid (okB 3 0 s = _) := h
  clear h
  go_enter Tryd.func27, Tryd.ntmps27
  go_wp2_with fail
  refine (ok_spec _ _ _ _).mono ?_
  rw [HK.out]
  rintro e w' ⟨rfl, rfl⟩
  go_wp2
  go_loopw [3, 4] (fun v i wr => ∃ k : Nat, k ≤ s.size ∧ i = .int .i64 k ∧ Own (w.heap.size + 2) wr v (G s k) ∧ Below (w.heap.size + 2) ((w.alloc (.cells #[.int .i64 3, .int .i64 0, .string s] 25)).alloc (.cells #[.int .i64 3, .int .i64 0, .string s] 25)) wr) (fun _ i _ => s.size - (intOf i).toNat)
  case atStart =>
    exact ⟨0, Nat.zero_le _, rfl, by rw [G_zero]; have h1 := own_onw (w.heap.size + 2) ((w.alloc (.cells #[.int .i64 3, .int .i64 0, .string s] 25)).alloc (.cells #[.int .i64 3, .int .i64 0, .string s] 25)) 39 (by simp); simp only [World.size_alloc] at h1; exact h1, (Below.refl _ _).alloc (by first | (simp; done) | (simp; omega) | omega) _⟩
  case round =>
    obtain ⟨k, hk, rfl, hown, hbel⟩ := hrel
    have hz : w.heap.size + 2 ≤ wr.heap.size := by have := hbel.size; simp at this; omega
    obtain ⟨hc, hf⟩ := bcell hbel
    have hgl := G_len s k
    have hc2 : wr.cell? ⟨w.heap.size, 2, none⟩ = some (.string s) := by rw [hc _ _ (by omega)]; simp [go_sem]
    have hz1 : w.heap.size < wr.heap.size := by omega
    clear hc hf
    by_cases hlt : k < s.size
    · have HG : Hid (G s (k + 1) = _) := G_succ s k hlt
      have hcl := s[k].toNat_lt
      cases hp : plainB s[k]
      · have HP : Hid (plainB s[k] = _) := hp
        have HE : Hid (escB s[k] = [37, hexB (s[k].toNat / 16), hexB (s[k].toNat % 16)]) := by show _ = _; rw [escB, if_neg (by rw [hp]; decide)]
        unfold plainB at hp
        by_cases c1 : 33 ≤ (s[k].toNat : Int)
        · by_cases c2 : (s[k].toNat : Int) ≤ 126
          · cases d3 : ((s[k].toNat : Int) != 39)
            · clear hp
              go_wp2_with (first | (go_at_call 36; refine (hex_spec _ (by omega) (by omega) _).mono ?_; rintro e w' ⟨rfl, hw⟩; subst w') | (at_builtin; refine app_list rfl (.tmp 53) (.tmp 62) rfl (w.heap.size + 2) _ (G s k) rfl (hown.alloc _) ⟨wr.heap.size, 0, none⟩ 3 3 [37, _, _] rfl rfl (cells3_new wr _ _ _) (by omega) (by simp; omega) ?_; intro v' w1 hown1 hb1))
              go_roundw
              case rel => exact ⟨k + 1, by omega, by go_num, by rw [HG.out, HE.out]; exact hown1, (hbel.alloc hz _).trans hb1⟩
              case measure => simp [intOf]; omega
            · have d4 : ((s[k].toNat : Int) != 37) = false := by simpa [c1, c2, d3] using hp
              clear hp
              go_wp2_with (first | (go_at_call 36; refine (hex_spec _ (by omega) (by omega) _).mono ?_; rintro e w' ⟨rfl, hw⟩; subst w') | (at_builtin; refine app_list rfl (.tmp 53) (.tmp 62) rfl (w.heap.size + 2) _ (G s k) rfl (hown.alloc _) ⟨wr.heap.size, 0, none⟩ 3 3 [37, _, _] rfl rfl (cells3_new wr _ _ _) (by omega) (by simp; omega) ?_; intro v' w1 hown1 hb1))
              go_roundw
              case rel => exact ⟨k + 1, by omega, by go_num, by rw [HG.out, HE.out]; exact hown1, (hbel.alloc hz _).trans hb1⟩
              case measure => simp [intOf]; omega
          · clear hp
            go_wp2_with (first | (go_at_call 36; refine (hex_spec _ (by omega) (by omega) _).mono ?_; rintro e w' ⟨rfl, hw⟩; subst w') | (at_builtin; refine app_list rfl (.tmp 53) (.tmp 62) rfl (w.heap.size + 2) _ (G s k) rfl (hown.alloc _) ⟨wr.heap.size, 0, none⟩ 3 3 [37, _, _] rfl rfl (cells3_new wr _ _ _) (by omega) (by simp; omega) ?_; intro v' w1 hown1 hb1))
            go_roundw
            case rel => exact ⟨k + 1, by omega, by go_num, by rw [HG.out, HE.out]; exact hown1, (hbel.alloc hz _).trans hb1⟩
            case measure => simp [intOf]; omega
        · clear hp
          go_wp2_with (first | (go_at_call 36; refine (hex_spec _ (by omega) (by omega) _).mono ?_; rintro e w' ⟨rfl, hw⟩; subst w') | (at_builtin; refine app_list rfl (.tmp 53) (.tmp 62) rfl (w.heap.size + 2) _ (G s k) rfl (hown.alloc _) ⟨wr.heap.size, 0, none⟩ 3 3 [37, _, _] rfl rfl (cells3_new wr _ _ _) (by omega) (by simp; omega) ?_; intro v' w1 hown1 hb1))
          go_roundw
          case rel => exact ⟨k + 1, by omega, by go_num, by rw [HG.out, HE.out]; exact hown1, (hbel.alloc hz _).trans hb1⟩
          case measure => simp [intOf]; omega
      · have HP : Hid (plainB s[k] = _) := hp
        have HE : Hid (escB s[k] = [s[k]]) := by show _ = _; rw [escB, if_pos hp]
        unfold plainB at hp
        simp only [Bool.and_eq_true, decide_eq_true_eq] at hp
        obtain ⟨⟨⟨c1, c2⟩, c3⟩, c4⟩ := hp
        go_wp2_with (first | (at_builtin; refine app_list rfl (.tmp 49) (.tmp 51) rfl (w.heap.size + 2) _ (G s k) rfl (hown.alloc _) ⟨wr.heap.size, 0, none⟩ 1 1 [s[k]] rfl rfl (cells1_new _ _ _) (by omega) (by simp; omega) ?_; intro v' w1 hown1 hb1))
        go_roundw
        case rel => exact ⟨k + 1, by omega, by go_num, by rw [HG.out, HE.out]; exact hown1, (hbel.alloc hz _).trans hb1⟩
        case measure => simp [intOf]; omega
    · have hk' : k = s.size := by omega
      subst hk'
      go_wp2_with (first | (at_builtin; refine app_list rfl (.tmp 64) (.tmp 65) rfl (w.heap.size + 2) _ (G s s.size) rfl (hown.alloc _) ⟨wr.heap.size, 0, none⟩ 1 1 [39] rfl rfl (cells1_new _ _ _) (by omega) (by simp; omega) ?_; intro v' w1 hown1 hb1; have hcv := own_text hown1))
      go_ret
      exact ⟨rfl, ((((Below.refl _ w).alloc (Nat.le_refl _) _).alloc (by simp) _).trans (hbel.mono (by omega))).trans (((Below.refl _ _).alloc (by omega) _).trans (hb1.mono (by omega)))⟩

/-- spec.ValText -/
theorem valText_spec (ty n : Int) (s : ByteArray) (w : World) : Calls Tryd.prog 27 #[V ty n s] w fun e w' => e = .returned (.string (valText ty n s)) ∧ Below w.heap.size w w' := by
  cases h : okB ty n s
  · have e : valText ty n s = noS := by rw [valText, if_pos h]
    rw [e]; exact valText_spec_not ty n s h w
  have hh : ¬ okB ty n s = false := by rw [h]; simp
  rcases ok_cases ty n s h with ⟨rfl, rfl, rfl⟩ | ⟨rfl, hn, rfl⟩ | ⟨rfl, hn, rfl⟩ | ⟨rfl, rfl, hs⟩
  · have e : valText 0 0 noS = tNull := by rw [valText, if_neg hh, if_pos rfl]
    rw [e]; exact valText_spec_null h w
  · have e : valText 1 n noS = bS (n == 1) := by rw [valText, if_neg hh, if_neg (by decide), if_pos rfl]
    rw [e]; exact valText_spec_bool n h w
  · have e : valText 2 n noS = ⟨(numText n).toArray⟩ := by rw [valText, if_neg hh, if_neg (by decide), if_neg (by decide), if_pos rfl]
    rw [e]; exact valText_spec_int n h w
  · have e : valText 3 0 s = ⟨(quoted s).toArray⟩ := by rw [valText, if_neg hh, if_neg (by decide), if_neg (by decide), if_neg (by decide)]
    rw [e]; exact valText_spec_text s hs h w
end Go.Proofs.YtmgoplamocgflagDoor
