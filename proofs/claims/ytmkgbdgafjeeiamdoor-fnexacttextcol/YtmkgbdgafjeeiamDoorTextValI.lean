/- The landed TextVal: its contract. -/
import Derived.Test.YtmkgbdgafjeeiamDoorReadI
namespace Go.Proofs.YtmkgbdgafjeeiamDoor
open Go.ChangeShapes Go.WideShapes Go.ChangeAt Go.RowKit

set_option maxRecDepth 100000 in
set_option maxHeartbeats 1000000 in
/-- impl.TextVal -/
theorem textVal_impl (s : ByteArray) (hs : s.size ≤ 1048576) (w : World) (hT : Tab w) (hE : Errs w) :
    Calls Tryd.prog 36 #[.string s] w fun e w' => ∃ ty n r b, e = .returned (cR ty n r b) ∧ TvR s ty n r b ∧ Below w.heap.size w w' := by
  have HT : Hid (Tab w) := hT
  have HE : Hid (Errs w) := hE
  clear hT hE
  go_enter Tryd.func36, Tryd.ntmps36
  go_wp2_with fail
  refine (readValue_impl s hs _ (HT.out.on (by repeat (first | exact Below.refl _ _ | refine Below.drew ?_ | refine below_draws _ ?_ | (refine Below.setCell ?_ (by first | (simp; done) | (simp; omega) | omega) _) | (refine Below.alloc ?_ (by first | (simp; done) | (simp; omega) | omega) _) | (refine below_of (by assumption) ?_ (by first | (simp; done) | (simp; omega) | omega))))) (HE.out.on (by repeat (first | exact Below.refl _ _ | refine Below.drew ?_ | refine below_draws _ ?_ | (refine Below.setCell ?_ (by first | (simp; done) | (simp; omega) | omega) _) | (refine Below.alloc ?_ (by first | (simp; done) | (simp; omega) | omega) _) | (refine below_of (by assumption) ?_ (by first | (simp; done) | (simp; omega) | omega)))))).mono ?_
  rintro e w1 ⟨x, ty, n, r, b, rfl, hin, hrv, hb1⟩
  have HRV : Hid (Rv s ty n r b) := hrv
  clear hrv
  cases b
  · have HN : Hid (TvR s 0 0 noS false) := TvR.none (fun ty' n' r' h => by have := (HRV.out.2 _ _ _ h).1; cases this)
    obtain ⟨hc, hf⟩ := bcell hb1
    have hz : w.heap.size < w1.heap.size := by have := hb1.size; simp at this; omega
    clear hin
    go_wp2
    exact bodyPost_ret (v := cR 0 0 noS false) (by simp [results, Tryd.results36, go_sem, hc]) rfl ⟨0, 0, noS, false, rfl, HN, by repeat (first | exact Below.refl _ _ | refine Below.drew ?_ | refine below_draws _ ?_ | (refine Below.setCell ?_ (by first | (simp; done) | (simp; omega) | omega) _) | (refine Below.alloc ?_ (by first | (simp; done) | (simp; omega) | omega) _) | (refine below_of (by assumption) ?_ (by first | (simp; done) | (simp; omega) | omega)))⟩
  · have HV : Hid (∀ w : World, Tab w → Calls Tryd.prog 28 #[V ty n r] w fun e w' => e = .returned (.string (valText ty n r)) ∧ Below w.heap.size w w') := fun w h => valText_impl ty n r w h
    have HY : Hid (valText ty n r = s → TvR s ty n r true) := fun he => TvR.yes he (HRV.out.1 rfl)
    have HN : Hid (valText ty n r ≠ s → TvR s 0 0 noS false) := fun he => TvR.no (fun ty' n' r' h => (HRV.out.2 _ _ _ h).2) he
    rcases hin with ⟨rfl, rfl, rfl, rfl⟩ | ⟨b, rfl, rfl, rfl, rfl⟩ | ⟨rfl, rfl, rfl⟩ | ⟨rfl, rfl, rfl⟩
    · have f5 := mv_null
      by_cases he : valText 0 0 noS = s
      · have HF : Hid (TvR s 0 0 noS true) := HY.out he
        rw [he] at HV
        clear he HY HN HRV
        go_wp2_with fail
        refine (val_null _).mono ?_
        rintro e w2 ⟨rfl, hb2⟩
        have hb12 := hb1.trans (hb2.mono hb1.size)
        go_wp2_with fail
        refine (HV.out _ (HT.out.on (((Below.refl _ _).alloc (Nat.le_refl _) _).trans (hb12.mono (by simp))))).mono ?_
        rintro e w3 ⟨rfl, hb3⟩
        have hb13 := hb12.trans (hb3.mono hb12.size)
        go_wp2_with fail
        refine (val_null _).mono ?_
        rintro e w4 ⟨rfl, hb4⟩
        have hb14 := hb13.trans (hb4.mono hb13.size)
        obtain ⟨hc, hf⟩ := bcell hb14
        have hz : w.heap.size < w4.heap.size := by have := hb14.size; simp at this; omega
        clear hb1 hb2 hb3 hb4 hb12 hb13
        go_wp2
        exact bodyPost_ret (v := cR 0 0 noS true) (by simp [results, Tryd.results36, go_sem, hc]) rfl ⟨_, _, _, true, rfl, HF, by repeat (first | exact Below.refl _ _ | refine Below.drew ?_ | refine below_draws _ ?_ | (refine Below.setCell ?_ (by first | (simp; done) | (simp; omega) | omega) _) | (refine Below.alloc ?_ (by first | (simp; done) | (simp; omega) | omega) _) | (refine below_of (by assumption) ?_ (by first | (simp; done) | (simp; omega) | omega)))⟩
      · have HF : Hid (TvR s 0 0 noS false) := HN.out he
        have hq : ((valText 0 0 noS).toList == s.toList) = false := by
          rw [beq_eq_false_iff_ne, ByteArray.toList_eq, ByteArray.toList_eq]
          intro e; exact he (by rw [← ba_eta (valText 0 0 noS), e, ba_eta])
        generalize valText 0 0 noS = T at HV hq
        clear he HY HN HRV
        go_wp2_with fail
        refine (val_null _).mono ?_
        rintro e w2 ⟨rfl, hb2⟩
        have hb12 := hb1.trans (hb2.mono hb1.size)
        go_wp2_with fail
        refine (HV.out _ (HT.out.on (((Below.refl _ _).alloc (Nat.le_refl _) _).trans (hb12.mono (by simp))))).mono ?_
        rintro e w3 ⟨rfl, hb3⟩
        have hb13 := hb12.trans (hb3.mono hb12.size)
        obtain ⟨hc, hf⟩ := bcell hb13
        have hz : w.heap.size < w3.heap.size := by have := hb13.size; simp at this; omega
        clear hb1 hb2 hb3 hb12
        go_wp2
        exact bodyPost_ret (v := cR 0 0 noS false) (by simp [results, Tryd.results36, go_sem, hc]) rfl ⟨0, 0, noS, false, rfl, HF, by repeat (first | exact Below.refl _ _ | refine Below.drew ?_ | refine below_draws _ ?_ | (refine Below.setCell ?_ (by first | (simp; done) | (simp; omega) | omega) _) | (refine Below.alloc ?_ (by first | (simp; done) | (simp; omega) | omega) _) | (refine below_of (by assumption) ?_ (by first | (simp; done) | (simp; omega) | omega)))⟩
    · have f5 := mv_bool b
      by_cases he : valText 1 (bN b) noS = s
      · have HF : Hid (TvR s 1 (bN b) noS true) := HY.out he
        rw [he] at HV
        clear he HY HN HRV
        go_wp2_with fail
        refine (val_bool _ _).mono ?_
        rintro e w2 ⟨rfl, hb2⟩
        have hb12 := hb1.trans (hb2.mono hb1.size)
        go_wp2_with fail
        refine (HV.out _ (HT.out.on (((Below.refl _ _).alloc (Nat.le_refl _) _).trans (hb12.mono (by simp))))).mono ?_
        rintro e w3 ⟨rfl, hb3⟩
        have hb13 := hb12.trans (hb3.mono hb12.size)
        go_wp2_with fail
        refine (val_bool _ _).mono ?_
        rintro e w4 ⟨rfl, hb4⟩
        have hb14 := hb13.trans (hb4.mono hb13.size)
        obtain ⟨hc, hf⟩ := bcell hb14
        have hz : w.heap.size < w4.heap.size := by have := hb14.size; simp at this; omega
        clear hb1 hb2 hb3 hb4 hb12 hb13
        go_wp2
        exact bodyPost_ret (v := cR 1 (bN b) noS true) (by simp [results, Tryd.results36, go_sem, hc]) rfl ⟨_, _, _, true, rfl, HF, by repeat (first | exact Below.refl _ _ | refine Below.drew ?_ | refine below_draws _ ?_ | (refine Below.setCell ?_ (by first | (simp; done) | (simp; omega) | omega) _) | (refine Below.alloc ?_ (by first | (simp; done) | (simp; omega) | omega) _) | (refine below_of (by assumption) ?_ (by first | (simp; done) | (simp; omega) | omega)))⟩
      · have HF : Hid (TvR s 0 0 noS false) := HN.out he
        have hq : ((valText 1 (bN b) noS).toList == s.toList) = false := by
          rw [beq_eq_false_iff_ne, ByteArray.toList_eq, ByteArray.toList_eq]
          intro e; exact he (by rw [← ba_eta (valText 1 (bN b) noS), e, ba_eta])
        generalize valText 1 (bN b) noS = T at HV hq
        clear he HY HN HRV
        go_wp2_with fail
        refine (val_bool _ _).mono ?_
        rintro e w2 ⟨rfl, hb2⟩
        have hb12 := hb1.trans (hb2.mono hb1.size)
        go_wp2_with fail
        refine (HV.out _ (HT.out.on (((Below.refl _ _).alloc (Nat.le_refl _) _).trans (hb12.mono (by simp))))).mono ?_
        rintro e w3 ⟨rfl, hb3⟩
        have hb13 := hb12.trans (hb3.mono hb12.size)
        obtain ⟨hc, hf⟩ := bcell hb13
        have hz : w.heap.size < w3.heap.size := by have := hb13.size; simp at this; omega
        clear hb1 hb2 hb3 hb12
        go_wp2
        exact bodyPost_ret (v := cR 0 0 noS false) (by simp [results, Tryd.results36, go_sem, hc]) rfl ⟨0, 0, noS, false, rfl, HF, by repeat (first | exact Below.refl _ _ | refine Below.drew ?_ | refine below_draws _ ?_ | (refine Below.setCell ?_ (by first | (simp; done) | (simp; omega) | omega) _) | (refine Below.alloc ?_ (by first | (simp; done) | (simp; omega) | omega) _) | (refine below_of (by assumption) ?_ (by first | (simp; done) | (simp; omega) | omega)))⟩
    · have f5 := mv_int n
      by_cases he : valText 2 n noS = s
      · have HF : Hid (TvR s 2 n noS true) := HY.out he
        rw [he] at HV
        clear he HY HN HRV
        go_wp2_with fail
        refine (val_int _ _).mono ?_
        rintro e w2 ⟨rfl, hb2⟩
        have hb12 := hb1.trans (hb2.mono hb1.size)
        go_wp2_with fail
        refine (HV.out _ (HT.out.on (((Below.refl _ _).alloc (Nat.le_refl _) _).trans (hb12.mono (by simp))))).mono ?_
        rintro e w3 ⟨rfl, hb3⟩
        have hb13 := hb12.trans (hb3.mono hb12.size)
        go_wp2_with fail
        refine (val_int _ _).mono ?_
        rintro e w4 ⟨rfl, hb4⟩
        have hb14 := hb13.trans (hb4.mono hb13.size)
        obtain ⟨hc, hf⟩ := bcell hb14
        have hz : w.heap.size < w4.heap.size := by have := hb14.size; simp at this; omega
        clear hb1 hb2 hb3 hb4 hb12 hb13
        go_wp2
        exact bodyPost_ret (v := cR 2 n noS true) (by simp [results, Tryd.results36, go_sem, hc]) rfl ⟨_, _, _, true, rfl, HF, by repeat (first | exact Below.refl _ _ | refine Below.drew ?_ | refine below_draws _ ?_ | (refine Below.setCell ?_ (by first | (simp; done) | (simp; omega) | omega) _) | (refine Below.alloc ?_ (by first | (simp; done) | (simp; omega) | omega) _) | (refine below_of (by assumption) ?_ (by first | (simp; done) | (simp; omega) | omega)))⟩
      · have HF : Hid (TvR s 0 0 noS false) := HN.out he
        have hq : ((valText 2 n noS).toList == s.toList) = false := by
          rw [beq_eq_false_iff_ne, ByteArray.toList_eq, ByteArray.toList_eq]
          intro e; exact he (by rw [← ba_eta (valText 2 n noS), e, ba_eta])
        generalize valText 2 n noS = T at HV hq
        clear he HY HN HRV
        go_wp2_with fail
        refine (val_int _ _).mono ?_
        rintro e w2 ⟨rfl, hb2⟩
        have hb12 := hb1.trans (hb2.mono hb1.size)
        go_wp2_with fail
        refine (HV.out _ (HT.out.on (((Below.refl _ _).alloc (Nat.le_refl _) _).trans (hb12.mono (by simp))))).mono ?_
        rintro e w3 ⟨rfl, hb3⟩
        have hb13 := hb12.trans (hb3.mono hb12.size)
        obtain ⟨hc, hf⟩ := bcell hb13
        have hz : w.heap.size < w3.heap.size := by have := hb13.size; simp at this; omega
        clear hb1 hb2 hb3 hb12
        go_wp2
        exact bodyPost_ret (v := cR 0 0 noS false) (by simp [results, Tryd.results36, go_sem, hc]) rfl ⟨0, 0, noS, false, rfl, HF, by repeat (first | exact Below.refl _ _ | refine Below.drew ?_ | refine below_draws _ ?_ | (refine Below.setCell ?_ (by first | (simp; done) | (simp; omega) | omega) _) | (refine Below.alloc ?_ (by first | (simp; done) | (simp; omega) | omega) _) | (refine below_of (by assumption) ?_ (by first | (simp; done) | (simp; omega) | omega)))⟩
    · have f5 := mv_text r
      by_cases he : valText 3 0 r = s
      · have HF : Hid (TvR s 3 0 r true) := HY.out he
        rw [he] at HV
        clear he HY HN HRV
        go_wp2_with fail
        refine (val_text _ _).mono ?_
        rintro e w2 ⟨rfl, hb2⟩
        have hb12 := hb1.trans (hb2.mono hb1.size)
        go_wp2_with fail
        refine (HV.out _ (HT.out.on (((Below.refl _ _).alloc (Nat.le_refl _) _).trans (hb12.mono (by simp))))).mono ?_
        rintro e w3 ⟨rfl, hb3⟩
        have hb13 := hb12.trans (hb3.mono hb12.size)
        go_wp2_with fail
        refine (val_text _ _).mono ?_
        rintro e w4 ⟨rfl, hb4⟩
        have hb14 := hb13.trans (hb4.mono hb13.size)
        obtain ⟨hc, hf⟩ := bcell hb14
        have hz : w.heap.size < w4.heap.size := by have := hb14.size; simp at this; omega
        clear hb1 hb2 hb3 hb4 hb12 hb13
        go_wp2
        exact bodyPost_ret (v := cR 3 0 r true) (by simp [results, Tryd.results36, go_sem, hc]) rfl ⟨_, _, _, true, rfl, HF, by repeat (first | exact Below.refl _ _ | refine Below.drew ?_ | refine below_draws _ ?_ | (refine Below.setCell ?_ (by first | (simp; done) | (simp; omega) | omega) _) | (refine Below.alloc ?_ (by first | (simp; done) | (simp; omega) | omega) _) | (refine below_of (by assumption) ?_ (by first | (simp; done) | (simp; omega) | omega)))⟩
      · have HF : Hid (TvR s 0 0 noS false) := HN.out he
        have hq : ((valText 3 0 r).toList == s.toList) = false := by
          rw [beq_eq_false_iff_ne, ByteArray.toList_eq, ByteArray.toList_eq]
          intro e; exact he (by rw [← ba_eta (valText 3 0 r), e, ba_eta])
        generalize valText 3 0 r = T at HV hq
        clear he HY HN HRV
        go_wp2_with fail
        refine (val_text _ _).mono ?_
        rintro e w2 ⟨rfl, hb2⟩
        have hb12 := hb1.trans (hb2.mono hb1.size)
        go_wp2_with fail
        refine (HV.out _ (HT.out.on (((Below.refl _ _).alloc (Nat.le_refl _) _).trans (hb12.mono (by simp))))).mono ?_
        rintro e w3 ⟨rfl, hb3⟩
        have hb13 := hb12.trans (hb3.mono hb12.size)
        obtain ⟨hc, hf⟩ := bcell hb13
        have hz : w.heap.size < w3.heap.size := by have := hb13.size; simp at this; omega
        clear hb1 hb2 hb3 hb12
        go_wp2
        exact bodyPost_ret (v := cR 0 0 noS false) (by simp [results, Tryd.results36, go_sem, hc]) rfl ⟨0, 0, noS, false, rfl, HF, by repeat (first | exact Below.refl _ _ | refine Below.drew ?_ | refine below_draws _ ?_ | (refine Below.setCell ?_ (by first | (simp; done) | (simp; omega) | omega) _) | (refine Below.alloc ?_ (by first | (simp; done) | (simp; omega) | omega) _) | (refine below_of (by assumption) ?_ (by first | (simp; done) | (simp; omega) | omega)))⟩
end Go.Proofs.YtmkgbdgafjeeiamDoor
