/- The given TextVal: the other ways, and its contract whole. -/
import Derived.Test.YtmkgbdgafjeeiamDoorTextValS
namespace Go.Proofs.YtmkgbdgafjeeiamDoor
open Go.ChangeShapes Go.WideShapes Go.ChangeAt Go.RowKit

theorem vt_null : valText 0 0 noS = tNull := by
  have h : okB 0 0 noS = true := by simp [okB, ByteArray.toList_eq]
  rw [valText, if_neg (by rw [h]; decide), if_pos rfl]
theorem tn_val (s : ByteArray) (h : tnB s = true) : Tv s 2 (tnV s) noS := by
  unfold tnB at h
  cases ht : textNum s.data.toList with
  | none => rw [ht] at h; cases h
  | some m =>
    obtain ⟨hb, he⟩ := (textNum_some _ m).1 ht
    have hv : tnV s = m := (tn_some ht).1
    rw [hv]
    have ho : okB 2 m noS = true := by simp [okB, hb, ByteArray.toList_eq]
    refine ⟨ho, ?_⟩
    rw [valText, if_neg (by rw [ho]; decide), if_neg (by decide), if_neg (by decide), if_pos rfl, numText, if_pos hb, he, ba_eta]
theorem tn_not (l : List UInt8) (c : UInt8) (r : List UInt8) (hl : l = c :: r) (hc : ¬ (c.toNat = 45 ∨ (48 ≤ c.toNat ∧ c.toNat ≤ 57))) : textNum l = .none := by
  cases ht : textNum l with
  | none => rfl
  | some m =>
    obtain ⟨_, rfl⟩ := (textNum_some l m).1 ht
    obtain ⟨c', r', hc', hd⟩ := itoa_head m
    rw [hc'] at hl
    cases hl
    exact absurd hd hc
theorem tv_rest (s : ByteArray) (hq : s.size ≤ 1 ∨ 94 ≤ s.size ∨ s.data.toList.head? ≠ some 39) (h1 : s ≠ tTrue) (h2 : s ≠ tFalse) (hn : tnB s = false) (ty n : Int) (r : ByteArray) (h : Tv s ty n r) : ty = 0 ∧ n = 0 ∧ r = noS := by
  by_cases hh : s.data.toList.head? = some 39
  · exfalso
    obtain ⟨rfl, rfl, hr, he⟩ := tv_quote s hh ty n r h
    have hl := size_len s
    rw [he] at hl
    simp at hl
    have h3 := E_len r.data.toList
    rw [size_len] at h3
    rcases hq with hq | hq | hq
    · omega
    · omega
    · exact hq hh
  · by_cases h0 : s = tNull
    · subst h0; exact tv_null _ _ _ h
    · obtain ⟨rfl, rfl, e⟩ := tv_num s hh h0 h1 h2 ty n r h
      rw [(tn_some e).2] at hn
      cases hn
theorem neT (s : ByteArray) (l : List UInt8) (h : (s.toList == l) = false) : s ≠ ⟨l.toArray⟩ := by
  intro e
  rw [(beqL s l).2 e] at h
  cases h

set_option maxRecDepth 100000 in
set_option maxHeartbeats 2000000 in
theorem textVal_spec_t (s : ByteArray) (d : (s.toList == [116, 114, 117, 101]) = true) (w : World) :
    Calls Tryd.prog 16 #[.string s] w fun e w' => ∃ ty n r b, e = .returned (cR ty n r b) ∧ TvR s ty n r b ∧ Below w.heap.size w w' := by
  have hs := (beqL s [116, 114, 117, 101]).1 d
  have ht : tnV s = 0 ∧ tnB s = false := tn_none (by rw [hs]; exact tn_not _ 116 [114, 117, 101] rfl (by decide))
  have HS : Hid (∀ w : World, Calls Tryd.prog 29 #[.string s] w fun e w' => e = .returned (.tuple #[.int .i64 (tnV s), .bool (tnB s)]) ∧ Below w.heap.size w w') := fun w => textNum_spec s (by rw [hs]; decide) w
  rw [ht.1, ht.2] at HS
  have HL : Hid (∀ ty' n' r', Tv s ty' n' r' → ty' = 1 ∧ n' = 1 ∧ r' = noS) := by
    intro ty' n' r' h
    rw [hs] at h
    exact tv_true _ _ _ h
  have HNE : Hid (s.data.toList ≠ []) := by show _ ≠ _; rw [hs]; simp
  have hsz : (s.size : Int) = 4 := by rw [hs]; rfl
  have h0 : 0 < s.size := by omega
  have hd : s.data.toList.head? = some 116 := by rw [hs]; rfl
  have hqb : ((s[0].toNat : Int) == 39) = false := by
    rw [head_at s h0] at hd
    rw [Option.some.inj hd]
    decide
  clear hd
  have h1i : (1 : Int) < s.size := by omega
  clear ht hs
  go_enter Tryd.func16, Tryd.ntmps16
  go_wp2_with fail
  refine (HS.out _).mono ?_
  rintro e w1 ⟨rfl, hb1⟩
  obtain ⟨hc, hf⟩ := bcell hb1
  have hzx : w.heap.size + 1 < w1.heap.size := by have := hb1.size; simp at this; omega
  go_upto_region 17 with fail
  refine wp_world (TailV w 1 1 noS) ?_ ?_
  · constructor
    case size => first | exact hzx | (simp; exact hzx) | (simp; omega)
    case below => repeat (first | exact Below.refl _ _ | (refine Below.setCell ?_ (by first | (simp; done) | (simp; omega) | omega) _) | (refine Below.alloc ?_ (by first | (simp; done) | (simp; omega) | omega) _) | (refine below_of (by assumption) ?_ (by first | (simp; done) | (simp; omega) | omega)))
    all_goals simp [hc, hf, go_sem]
  · intro wx htl
    obtain ⟨o0, o1, o2, r0, r1, r2, f0, f1, f2, hzw, hbx⟩ := htl
    have hz0 : w.heap.size < wx.heap.size := by omega
    clear hc hf hb1
    have HV : Hid (∀ w : World, Calls Tryd.prog 31 #[V 1 1 noS] w fun e w' => e = .returned (.string (valText 1 1 noS)) ∧ Below w.heap.size w w') := fun w => valText_spec 1 1 noS w
    by_cases he : valText 1 1 noS = s
    · have HF : Hid (TvR s 1 1 noS true) := TvR.yes he (HNE.out)
      rw [he] at HV
      clear he
      go_wp2_with fail
      refine (HV.out _).mono ?_
      rintro e w2 ⟨rfl, hb2⟩
      obtain ⟨hc2, hf2⟩ := bcell hb2
      have hz2 : w.heap.size + 1 < w2.heap.size := by have := hb2.size; omega
      have hz3 : w.heap.size < w2.heap.size := by omega
      go_wp2
      exact bodyPost_ret (v := cR 1 1 noS true) (by simp [results, Tryd.results16, go_sem, hc2, r0, r1, r2, hz0]) rfl ⟨_, _, _, true, rfl, HF, by repeat (first | exact hbx | exact Below.refl _ _ | (refine Below.setCell ?_ (by first | (simp; done) | (simp; omega) | omega) _) | (refine Below.alloc ?_ (by first | (simp; done) | (simp; omega) | omega) _) | (refine below_of hb2 ?_ (by first | (simp; done) | (simp; omega) | omega)))⟩
    · have HF : Hid (TvR s 0 0 noS false) := TvR.no HL.out he
      have hqq : ((valText 1 1 noS).toList == s.toList) = false := by
        rw [beq_eq_false_iff_ne, ByteArray.toList_eq, ByteArray.toList_eq]
        intro e; exact he (by rw [← ba_eta (valText 1 1 noS), e, ba_eta])
      generalize valText 1 1 noS = T at HV hqq
      clear he
      go_wp2_with fail
      refine (HV.out _).mono ?_
      rintro e w2 ⟨rfl, hb2⟩
      obtain ⟨hc2, hf2⟩ := bcell hb2
      have hz2 : w.heap.size + 1 < w2.heap.size := by have := hb2.size; omega
      have hz3 : w.heap.size < w2.heap.size := by omega
      go_wp2
      exact bodyPost_ret (v := cR 0 0 noS false) (by simp [results, Tryd.results16, go_sem, hc2, r0, r1, r2, hz0]) rfl ⟨0, 0, noS, false, rfl, HF, by repeat (first | exact hbx | exact Below.refl _ _ | (refine Below.setCell ?_ (by first | (simp; done) | (simp; omega) | omega) _) | (refine Below.alloc ?_ (by first | (simp; done) | (simp; omega) | omega) _) | (refine below_of hb2 ?_ (by first | (simp; done) | (simp; omega) | omega)))⟩
set_option maxRecDepth 100000 in
set_option maxHeartbeats 2000000 in
theorem textVal_spec_f (s : ByteArray) (d : (s.toList == [102, 97, 108, 115, 101]) = true) (d' : (s.toList == [116, 114, 117, 101]) = false) (w : World) :
    Calls Tryd.prog 16 #[.string s] w fun e w' => ∃ ty n r b, e = .returned (cR ty n r b) ∧ TvR s ty n r b ∧ Below w.heap.size w w' := by
  have hs := (beqL s [102, 97, 108, 115, 101]).1 d
  have ht : tnV s = 0 ∧ tnB s = false := tn_none (by rw [hs]; exact tn_not _ 102 [97, 108, 115, 101] rfl (by decide))
  have HS : Hid (∀ w : World, Calls Tryd.prog 29 #[.string s] w fun e w' => e = .returned (.tuple #[.int .i64 (tnV s), .bool (tnB s)]) ∧ Below w.heap.size w w') := fun w => textNum_spec s (by rw [hs]; decide) w
  rw [ht.1, ht.2] at HS
  have HL : Hid (∀ ty' n' r', Tv s ty' n' r' → ty' = 1 ∧ n' = 0 ∧ r' = noS) := by
    intro ty' n' r' h
    rw [hs] at h
    exact tv_false _ _ _ h
  have HNE : Hid (s.data.toList ≠ []) := by show _ ≠ _; rw [hs]; simp
  have hsz : (s.size : Int) = 5 := by rw [hs]; rfl
  have h0 : 0 < s.size := by omega
  have hd : s.data.toList.head? = some 102 := by rw [hs]; rfl
  have hqb : ((s[0].toNat : Int) == 39) = false := by
    rw [head_at s h0] at hd
    rw [Option.some.inj hd]
    decide
  clear hd
  have h1i : (1 : Int) < s.size := by omega
  clear ht hs
  go_enter Tryd.func16, Tryd.ntmps16
  go_wp2_with fail
  refine (HS.out _).mono ?_
  rintro e w1 ⟨rfl, hb1⟩
  obtain ⟨hc, hf⟩ := bcell hb1
  have hzx : w.heap.size + 1 < w1.heap.size := by have := hb1.size; simp at this; omega
  go_upto_region 17 with fail
  refine wp_world (TailV w 1 0 noS) ?_ ?_
  · constructor
    case size => first | exact hzx | (simp; exact hzx) | (simp; omega)
    case below => repeat (first | exact Below.refl _ _ | (refine Below.setCell ?_ (by first | (simp; done) | (simp; omega) | omega) _) | (refine Below.alloc ?_ (by first | (simp; done) | (simp; omega) | omega) _) | (refine below_of (by assumption) ?_ (by first | (simp; done) | (simp; omega) | omega)))
    all_goals simp [hc, hf, go_sem]
  · intro wx htl
    obtain ⟨o0, o1, o2, r0, r1, r2, f0, f1, f2, hzw, hbx⟩ := htl
    have hz0 : w.heap.size < wx.heap.size := by omega
    clear hc hf hb1
    have HV : Hid (∀ w : World, Calls Tryd.prog 31 #[V 1 0 noS] w fun e w' => e = .returned (.string (valText 1 0 noS)) ∧ Below w.heap.size w w') := fun w => valText_spec 1 0 noS w
    by_cases he : valText 1 0 noS = s
    · have HF : Hid (TvR s 1 0 noS true) := TvR.yes he (HNE.out)
      rw [he] at HV
      clear he
      go_wp2_with fail
      refine (HV.out _).mono ?_
      rintro e w2 ⟨rfl, hb2⟩
      obtain ⟨hc2, hf2⟩ := bcell hb2
      have hz2 : w.heap.size + 1 < w2.heap.size := by have := hb2.size; omega
      have hz3 : w.heap.size < w2.heap.size := by omega
      go_wp2
      exact bodyPost_ret (v := cR 1 0 noS true) (by simp [results, Tryd.results16, go_sem, hc2, r0, r1, r2, hz0]) rfl ⟨_, _, _, true, rfl, HF, by repeat (first | exact hbx | exact Below.refl _ _ | (refine Below.setCell ?_ (by first | (simp; done) | (simp; omega) | omega) _) | (refine Below.alloc ?_ (by first | (simp; done) | (simp; omega) | omega) _) | (refine below_of hb2 ?_ (by first | (simp; done) | (simp; omega) | omega)))⟩
    · have HF : Hid (TvR s 0 0 noS false) := TvR.no HL.out he
      have hqq : ((valText 1 0 noS).toList == s.toList) = false := by
        rw [beq_eq_false_iff_ne, ByteArray.toList_eq, ByteArray.toList_eq]
        intro e; exact he (by rw [← ba_eta (valText 1 0 noS), e, ba_eta])
      generalize valText 1 0 noS = T at HV hqq
      clear he
      go_wp2_with fail
      refine (HV.out _).mono ?_
      rintro e w2 ⟨rfl, hb2⟩
      obtain ⟨hc2, hf2⟩ := bcell hb2
      have hz2 : w.heap.size + 1 < w2.heap.size := by have := hb2.size; omega
      have hz3 : w.heap.size < w2.heap.size := by omega
      go_wp2
      exact bodyPost_ret (v := cR 0 0 noS false) (by simp [results, Tryd.results16, go_sem, hc2, r0, r1, r2, hz0]) rfl ⟨0, 0, noS, false, rfl, HF, by repeat (first | exact hbx | exact Below.refl _ _ | (refine Below.setCell ?_ (by first | (simp; done) | (simp; omega) | omega) _) | (refine Below.alloc ?_ (by first | (simp; done) | (simp; omega) | omega) _) | (refine below_of hb2 ?_ (by first | (simp; done) | (simp; omega) | omega)))⟩
set_option maxRecDepth 100000 in
set_option maxHeartbeats 2000000 in
theorem textVal_spec_st (s : ByteArray) (hs : s.size ≤ 1048576) (d1 : (s.toList == [116, 114, 117, 101]) = false) (d2 : (s.toList == [102, 97, 108, 115, 101]) = false) (hq : s.size ≤ 1) (hb : tnB s = true) (w : World) :
    Calls Tryd.prog 16 #[.string s] w fun e w' => ∃ ty n r b, e = .returned (cR ty n r b) ∧ TvR s ty n r b ∧ Below w.heap.size w w' := by
  have HS : Hid (∀ w : World, Calls Tryd.prog 29 #[.string s] w fun e w' => e = .returned (.tuple #[.int .i64 (tnV s), .bool (tnB s)]) ∧ Below w.heap.size w w') := fun w => textNum_spec s hs w
  have HL : Hid (∀ ty' n' r', Tv s ty' n' r' → ty' = 2 ∧ n' = tnV s ∧ r' = noS) := fun ty' n' r' h => tv_unique s _ _ _ _ _ _ h (tn_val s hb)
  have HNE : Hid (s.data.toList ≠ []) := tv_nonempty s _ _ _ (tn_val s hb)
  have g1 : ¬ (1 : Int) < s.size := by omega
  rw [hb] at HS
  generalize tnV s = v at HS HL
  clear hb hq
  go_enter Tryd.func16, Tryd.ntmps16
  go_wp2_with fail
  refine (HS.out _).mono ?_
  rintro e w1 ⟨rfl, hb1⟩
  obtain ⟨hc, hf⟩ := bcell hb1
  have hzx : w.heap.size + 1 < w1.heap.size := by have := hb1.size; simp at this; omega
  go_upto_region 17 with fail
  refine wp_world (TailV w 2 v noS) ?_ ?_
  · constructor
    case size => first | exact hzx | (simp; exact hzx) | (simp; omega)
    case below => repeat (first | exact Below.refl _ _ | (refine Below.setCell ?_ (by first | (simp; done) | (simp; omega) | omega) _) | (refine Below.alloc ?_ (by first | (simp; done) | (simp; omega) | omega) _) | (refine below_of (by assumption) ?_ (by first | (simp; done) | (simp; omega) | omega)))
    all_goals simp [hc, hf, go_sem]
  · intro wx htl
    obtain ⟨o0, o1, o2, r0, r1, r2, f0, f1, f2, hzw, hbx⟩ := htl
    have hz0 : w.heap.size < wx.heap.size := by omega
    clear hc hf hb1
    have HV : Hid (∀ w : World, Calls Tryd.prog 31 #[V 2 v noS] w fun e w' => e = .returned (.string (valText 2 v noS)) ∧ Below w.heap.size w w') := fun w => valText_spec 2 v noS w
    by_cases he : valText 2 v noS = s
    · have HF : Hid (TvR s 2 v noS true) := TvR.yes he (HNE.out)
      rw [he] at HV
      clear he
      go_wp2_with fail
      refine (HV.out _).mono ?_
      rintro e w2 ⟨rfl, hb2⟩
      obtain ⟨hc2, hf2⟩ := bcell hb2
      have hz2 : w.heap.size + 1 < w2.heap.size := by have := hb2.size; omega
      have hz3 : w.heap.size < w2.heap.size := by omega
      go_wp2
      exact bodyPost_ret (v := cR 2 v noS true) (by simp [results, Tryd.results16, go_sem, hc2, r0, r1, r2, hz0]) rfl ⟨_, _, _, true, rfl, HF, by repeat (first | exact hbx | exact Below.refl _ _ | (refine Below.setCell ?_ (by first | (simp; done) | (simp; omega) | omega) _) | (refine Below.alloc ?_ (by first | (simp; done) | (simp; omega) | omega) _) | (refine below_of hb2 ?_ (by first | (simp; done) | (simp; omega) | omega)))⟩
    · have HF : Hid (TvR s 0 0 noS false) := TvR.no HL.out he
      have hqq : ((valText 2 v noS).toList == s.toList) = false := by
        rw [beq_eq_false_iff_ne, ByteArray.toList_eq, ByteArray.toList_eq]
        intro e; exact he (by rw [← ba_eta (valText 2 v noS), e, ba_eta])
      generalize valText 2 v noS = T at HV hqq
      clear he
      go_wp2_with fail
      refine (HV.out _).mono ?_
      rintro e w2 ⟨rfl, hb2⟩
      obtain ⟨hc2, hf2⟩ := bcell hb2
      have hz2 : w.heap.size + 1 < w2.heap.size := by have := hb2.size; omega
      have hz3 : w.heap.size < w2.heap.size := by omega
      go_wp2
      exact bodyPost_ret (v := cR 0 0 noS false) (by simp [results, Tryd.results16, go_sem, hc2, r0, r1, r2, hz0]) rfl ⟨0, 0, noS, false, rfl, HF, by repeat (first | exact hbx | exact Below.refl _ _ | (refine Below.setCell ?_ (by first | (simp; done) | (simp; omega) | omega) _) | (refine Below.alloc ?_ (by first | (simp; done) | (simp; omega) | omega) _) | (refine below_of hb2 ?_ (by first | (simp; done) | (simp; omega) | omega)))⟩
set_option maxRecDepth 100000 in
set_option maxHeartbeats 2000000 in
theorem textVal_spec_sf (s : ByteArray) (hs : s.size ≤ 1048576) (d1 : (s.toList == [116, 114, 117, 101]) = false) (d2 : (s.toList == [102, 97, 108, 115, 101]) = false) (hq : s.size ≤ 1) (hb : tnB s = false) (w : World) :
    Calls Tryd.prog 16 #[.string s] w fun e w' => ∃ ty n r b, e = .returned (cR ty n r b) ∧ TvR s ty n r b ∧ Below w.heap.size w w' := by
  have HS : Hid (∀ w : World, Calls Tryd.prog 29 #[.string s] w fun e w' => e = .returned (.tuple #[.int .i64 (tnV s), .bool (tnB s)]) ∧ Below w.heap.size w w') := fun w => textNum_spec s hs w
  have hv : tnV s = 0 := by
    unfold tnB at hb
    unfold tnV
    cases ht : textNum s.data.toList with
    | none => rfl
    | some m => rw [ht] at hb; cases hb
  have HL : Hid (∀ ty' n' r', Tv s ty' n' r' → ty' = 0 ∧ n' = 0 ∧ r' = noS) := fun ty' n' r' h => tv_rest s (Or.inl hq) (neT s [116, 114, 117, 101] d1) (neT s [102, 97, 108, 115, 101] d2) hb ty' n' r' h
  have g1 : ¬ (1 : Int) < s.size := by omega
  rw [hb, hv] at HS
  clear hv
  clear hb hq
  go_enter Tryd.func16, Tryd.ntmps16
  go_wp2_with fail
  refine (HS.out _).mono ?_
  rintro e w1 ⟨rfl, hb1⟩
  obtain ⟨hc, hf⟩ := bcell hb1
  have hzx : w.heap.size + 1 < w1.heap.size := by have := hb1.size; simp at this; omega
  go_upto_region 17 with fail
  refine wp_world (TailV w 0 0 noS) ?_ ?_
  · constructor
    case size => first | exact hzx | (simp; exact hzx) | (simp; omega)
    case below => repeat (first | exact Below.refl _ _ | (refine Below.setCell ?_ (by first | (simp; done) | (simp; omega) | omega) _) | (refine Below.alloc ?_ (by first | (simp; done) | (simp; omega) | omega) _) | (refine below_of (by assumption) ?_ (by first | (simp; done) | (simp; omega) | omega)))
    all_goals simp [hc, hf, go_sem]
  · intro wx htl
    obtain ⟨o0, o1, o2, r0, r1, r2, f0, f1, f2, hzw, hbx⟩ := htl
    have hz0 : w.heap.size < wx.heap.size := by omega
    clear hc hf hb1
    have HV : Hid (∀ w : World, Calls Tryd.prog 31 #[V 0 0 noS] w fun e w' => e = .returned (.string (valText 0 0 noS)) ∧ Below w.heap.size w w') := fun w => valText_spec 0 0 noS w
    by_cases he : valText 0 0 noS = s
    · have HF : Hid (TvR s 0 0 noS true) := TvR.yes he (by rw [← he, vt_null]; simp)
      rw [he] at HV
      clear he
      go_wp2_with fail
      refine (HV.out _).mono ?_
      rintro e w2 ⟨rfl, hb2⟩
      obtain ⟨hc2, hf2⟩ := bcell hb2
      have hz2 : w.heap.size + 1 < w2.heap.size := by have := hb2.size; omega
      have hz3 : w.heap.size < w2.heap.size := by omega
      go_wp2
      exact bodyPost_ret (v := cR 0 0 noS true) (by simp [results, Tryd.results16, go_sem, hc2, r0, r1, r2, hz0]) rfl ⟨_, _, _, true, rfl, HF, by repeat (first | exact hbx | exact Below.refl _ _ | (refine Below.setCell ?_ (by first | (simp; done) | (simp; omega) | omega) _) | (refine Below.alloc ?_ (by first | (simp; done) | (simp; omega) | omega) _) | (refine below_of hb2 ?_ (by first | (simp; done) | (simp; omega) | omega)))⟩
    · have HF : Hid (TvR s 0 0 noS false) := TvR.no HL.out he
      have hqq : ((valText 0 0 noS).toList == s.toList) = false := by
        rw [beq_eq_false_iff_ne, ByteArray.toList_eq, ByteArray.toList_eq]
        intro e; exact he (by rw [← ba_eta (valText 0 0 noS), e, ba_eta])
      generalize valText 0 0 noS = T at HV hqq
      clear he
      go_wp2_with fail
      refine (HV.out _).mono ?_
      rintro e w2 ⟨rfl, hb2⟩
      obtain ⟨hc2, hf2⟩ := bcell hb2
      have hz2 : w.heap.size + 1 < w2.heap.size := by have := hb2.size; omega
      have hz3 : w.heap.size < w2.heap.size := by omega
      go_wp2
      exact bodyPost_ret (v := cR 0 0 noS false) (by simp [results, Tryd.results16, go_sem, hc2, r0, r1, r2, hz0]) rfl ⟨0, 0, noS, false, rfl, HF, by repeat (first | exact hbx | exact Below.refl _ _ | (refine Below.setCell ?_ (by first | (simp; done) | (simp; omega) | omega) _) | (refine Below.alloc ?_ (by first | (simp; done) | (simp; omega) | omega) _) | (refine below_of hb2 ?_ (by first | (simp; done) | (simp; omega) | omega)))⟩
set_option maxRecDepth 100000 in
set_option maxHeartbeats 2000000 in
theorem textVal_spec_bt (s : ByteArray) (hs : s.size ≤ 1048576) (d1 : (s.toList == [116, 114, 117, 101]) = false) (d2 : (s.toList == [102, 97, 108, 115, 101]) = false) (hq : 94 ≤ s.size) (hq2 : (s[0].toNat : Int) = 39) (hb : tnB s = true) (w : World) :
    Calls Tryd.prog 16 #[.string s] w fun e w' => ∃ ty n r b, e = .returned (cR ty n r b) ∧ TvR s ty n r b ∧ Below w.heap.size w w' := by
  have HS : Hid (∀ w : World, Calls Tryd.prog 29 #[.string s] w fun e w' => e = .returned (.tuple #[.int .i64 (tnV s), .bool (tnB s)]) ∧ Below w.heap.size w w') := fun w => textNum_spec s hs w
  have HL : Hid (∀ ty' n' r', Tv s ty' n' r' → ty' = 2 ∧ n' = tnV s ∧ r' = noS) := fun ty' n' r' h => tv_unique s _ _ _ _ _ _ h (tn_val s hb)
  have HNE : Hid (s.data.toList ≠ []) := tv_nonempty s _ _ _ (tn_val s hb)
  have g1 : (1 : Int) < s.size := by omega
  have g2 : ((s[0].toNat : Int) == 39) = true := by simp [hq2]
  have g3 : ¬ (s.size : Int) < 94 := by omega
  rw [hb] at HS
  generalize tnV s = v at HS HL
  clear hb hq2
  go_enter Tryd.func16, Tryd.ntmps16
  go_wp2_with fail
  refine (HS.out _).mono ?_
  rintro e w1 ⟨rfl, hb1⟩
  obtain ⟨hc, hf⟩ := bcell hb1
  have hzx : w.heap.size + 1 < w1.heap.size := by have := hb1.size; simp at this; omega
  go_upto_region 17 with fail
  refine wp_world (TailV w 2 v noS) ?_ ?_
  · constructor
    case size => first | exact hzx | (simp; exact hzx) | (simp; omega)
    case below => repeat (first | exact Below.refl _ _ | (refine Below.setCell ?_ (by first | (simp; done) | (simp; omega) | omega) _) | (refine Below.alloc ?_ (by first | (simp; done) | (simp; omega) | omega) _) | (refine below_of (by assumption) ?_ (by first | (simp; done) | (simp; omega) | omega)))
    all_goals simp [hc, hf, go_sem]
  · intro wx htl
    obtain ⟨o0, o1, o2, r0, r1, r2, f0, f1, f2, hzw, hbx⟩ := htl
    have hz0 : w.heap.size < wx.heap.size := by omega
    clear hc hf hb1
    have HV : Hid (∀ w : World, Calls Tryd.prog 31 #[V 2 v noS] w fun e w' => e = .returned (.string (valText 2 v noS)) ∧ Below w.heap.size w w') := fun w => valText_spec 2 v noS w
    by_cases he : valText 2 v noS = s
    · have HF : Hid (TvR s 2 v noS true) := TvR.yes he (HNE.out)
      rw [he] at HV
      clear he
      go_wp2_with fail
      refine (HV.out _).mono ?_
      rintro e w2 ⟨rfl, hb2⟩
      obtain ⟨hc2, hf2⟩ := bcell hb2
      have hz2 : w.heap.size + 1 < w2.heap.size := by have := hb2.size; omega
      have hz3 : w.heap.size < w2.heap.size := by omega
      go_wp2
      exact bodyPost_ret (v := cR 2 v noS true) (by simp [results, Tryd.results16, go_sem, hc2, r0, r1, r2, hz0]) rfl ⟨_, _, _, true, rfl, HF, by repeat (first | exact hbx | exact Below.refl _ _ | (refine Below.setCell ?_ (by first | (simp; done) | (simp; omega) | omega) _) | (refine Below.alloc ?_ (by first | (simp; done) | (simp; omega) | omega) _) | (refine below_of hb2 ?_ (by first | (simp; done) | (simp; omega) | omega)))⟩
    · have HF : Hid (TvR s 0 0 noS false) := TvR.no HL.out he
      have hqq : ((valText 2 v noS).toList == s.toList) = false := by
        rw [beq_eq_false_iff_ne, ByteArray.toList_eq, ByteArray.toList_eq]
        intro e; exact he (by rw [← ba_eta (valText 2 v noS), e, ba_eta])
      generalize valText 2 v noS = T at HV hqq
      clear he
      go_wp2_with fail
      refine (HV.out _).mono ?_
      rintro e w2 ⟨rfl, hb2⟩
      obtain ⟨hc2, hf2⟩ := bcell hb2
      have hz2 : w.heap.size + 1 < w2.heap.size := by have := hb2.size; omega
      have hz3 : w.heap.size < w2.heap.size := by omega
      go_wp2
      exact bodyPost_ret (v := cR 0 0 noS false) (by simp [results, Tryd.results16, go_sem, hc2, r0, r1, r2, hz0]) rfl ⟨0, 0, noS, false, rfl, HF, by repeat (first | exact hbx | exact Below.refl _ _ | (refine Below.setCell ?_ (by first | (simp; done) | (simp; omega) | omega) _) | (refine Below.alloc ?_ (by first | (simp; done) | (simp; omega) | omega) _) | (refine below_of hb2 ?_ (by first | (simp; done) | (simp; omega) | omega)))⟩
set_option maxRecDepth 100000 in
set_option maxHeartbeats 2000000 in
theorem textVal_spec_bf (s : ByteArray) (hs : s.size ≤ 1048576) (d1 : (s.toList == [116, 114, 117, 101]) = false) (d2 : (s.toList == [102, 97, 108, 115, 101]) = false) (hq : 94 ≤ s.size) (hq2 : (s[0].toNat : Int) = 39) (hb : tnB s = false) (w : World) :
    Calls Tryd.prog 16 #[.string s] w fun e w' => ∃ ty n r b, e = .returned (cR ty n r b) ∧ TvR s ty n r b ∧ Below w.heap.size w w' := by
  have HS : Hid (∀ w : World, Calls Tryd.prog 29 #[.string s] w fun e w' => e = .returned (.tuple #[.int .i64 (tnV s), .bool (tnB s)]) ∧ Below w.heap.size w w') := fun w => textNum_spec s hs w
  have hv : tnV s = 0 := by
    unfold tnB at hb
    unfold tnV
    cases ht : textNum s.data.toList with
    | none => rfl
    | some m => rw [ht] at hb; cases hb
  have HL : Hid (∀ ty' n' r', Tv s ty' n' r' → ty' = 0 ∧ n' = 0 ∧ r' = noS) := fun ty' n' r' h => tv_rest s (Or.inr (Or.inl hq)) (neT s [116, 114, 117, 101] d1) (neT s [102, 97, 108, 115, 101] d2) hb ty' n' r' h
  have g1 : (1 : Int) < s.size := by omega
  have g2 : ((s[0].toNat : Int) == 39) = true := by simp [hq2]
  have g3 : ¬ (s.size : Int) < 94 := by omega
  rw [hb, hv] at HS
  clear hv
  clear hb hq2
  go_enter Tryd.func16, Tryd.ntmps16
  go_wp2_with fail
  refine (HS.out _).mono ?_
  rintro e w1 ⟨rfl, hb1⟩
  obtain ⟨hc, hf⟩ := bcell hb1
  have hzx : w.heap.size + 1 < w1.heap.size := by have := hb1.size; simp at this; omega
  go_upto_region 17 with fail
  refine wp_world (TailV w 0 0 noS) ?_ ?_
  · constructor
    case size => first | exact hzx | (simp; exact hzx) | (simp; omega)
    case below => repeat (first | exact Below.refl _ _ | (refine Below.setCell ?_ (by first | (simp; done) | (simp; omega) | omega) _) | (refine Below.alloc ?_ (by first | (simp; done) | (simp; omega) | omega) _) | (refine below_of (by assumption) ?_ (by first | (simp; done) | (simp; omega) | omega)))
    all_goals simp [hc, hf, go_sem]
  · intro wx htl
    obtain ⟨o0, o1, o2, r0, r1, r2, f0, f1, f2, hzw, hbx⟩ := htl
    have hz0 : w.heap.size < wx.heap.size := by omega
    clear hc hf hb1
    have HV : Hid (∀ w : World, Calls Tryd.prog 31 #[V 0 0 noS] w fun e w' => e = .returned (.string (valText 0 0 noS)) ∧ Below w.heap.size w w') := fun w => valText_spec 0 0 noS w
    by_cases he : valText 0 0 noS = s
    · have HF : Hid (TvR s 0 0 noS true) := TvR.yes he (by rw [← he, vt_null]; simp)
      rw [he] at HV
      clear he
      go_wp2_with fail
      refine (HV.out _).mono ?_
      rintro e w2 ⟨rfl, hb2⟩
      obtain ⟨hc2, hf2⟩ := bcell hb2
      have hz2 : w.heap.size + 1 < w2.heap.size := by have := hb2.size; omega
      have hz3 : w.heap.size < w2.heap.size := by omega
      go_wp2
      exact bodyPost_ret (v := cR 0 0 noS true) (by simp [results, Tryd.results16, go_sem, hc2, r0, r1, r2, hz0]) rfl ⟨_, _, _, true, rfl, HF, by repeat (first | exact hbx | exact Below.refl _ _ | (refine Below.setCell ?_ (by first | (simp; done) | (simp; omega) | omega) _) | (refine Below.alloc ?_ (by first | (simp; done) | (simp; omega) | omega) _) | (refine below_of hb2 ?_ (by first | (simp; done) | (simp; omega) | omega)))⟩
    · have HF : Hid (TvR s 0 0 noS false) := TvR.no HL.out he
      have hqq : ((valText 0 0 noS).toList == s.toList) = false := by
        rw [beq_eq_false_iff_ne, ByteArray.toList_eq, ByteArray.toList_eq]
        intro e; exact he (by rw [← ba_eta (valText 0 0 noS), e, ba_eta])
      generalize valText 0 0 noS = T at HV hqq
      clear he
      go_wp2_with fail
      refine (HV.out _).mono ?_
      rintro e w2 ⟨rfl, hb2⟩
      obtain ⟨hc2, hf2⟩ := bcell hb2
      have hz2 : w.heap.size + 1 < w2.heap.size := by have := hb2.size; omega
      have hz3 : w.heap.size < w2.heap.size := by omega
      go_wp2
      exact bodyPost_ret (v := cR 0 0 noS false) (by simp [results, Tryd.results16, go_sem, hc2, r0, r1, r2, hz0]) rfl ⟨0, 0, noS, false, rfl, HF, by repeat (first | exact hbx | exact Below.refl _ _ | (refine Below.setCell ?_ (by first | (simp; done) | (simp; omega) | omega) _) | (refine Below.alloc ?_ (by first | (simp; done) | (simp; omega) | omega) _) | (refine below_of hb2 ?_ (by first | (simp; done) | (simp; omega) | omega)))⟩
set_option maxRecDepth 100000 in
set_option maxHeartbeats 2000000 in
theorem textVal_spec_ot (s : ByteArray) (hs : s.size ≤ 1048576) (d1 : (s.toList == [116, 114, 117, 101]) = false) (d2 : (s.toList == [102, 97, 108, 115, 101]) = false) (h1 : 1 < s.size) (hq : (s[0].toNat : Int) ≠ 39) (hb : tnB s = true) (w : World) :
    Calls Tryd.prog 16 #[.string s] w fun e w' => ∃ ty n r b, e = .returned (cR ty n r b) ∧ TvR s ty n r b ∧ Below w.heap.size w w' := by
  have HS : Hid (∀ w : World, Calls Tryd.prog 29 #[.string s] w fun e w' => e = .returned (.tuple #[.int .i64 (tnV s), .bool (tnB s)]) ∧ Below w.heap.size w w') := fun w => textNum_spec s hs w
  have HL : Hid (∀ ty' n' r', Tv s ty' n' r' → ty' = 2 ∧ n' = tnV s ∧ r' = noS) := fun ty' n' r' h => tv_unique s _ _ _ _ _ _ h (tn_val s hb)
  have HNE : Hid (s.data.toList ≠ []) := tv_nonempty s _ _ _ (tn_val s hb)
  have g1 : (1 : Int) < s.size := by omega
  have g2 : ((s[0].toNat : Int) == 39) = false := by simp [hq]
  rw [hb] at HS
  generalize tnV s = v at HS HL
  clear hb hq
  go_enter Tryd.func16, Tryd.ntmps16
  go_wp2_with fail
  refine (HS.out _).mono ?_
  rintro e w1 ⟨rfl, hb1⟩
  obtain ⟨hc, hf⟩ := bcell hb1
  have hzx : w.heap.size + 1 < w1.heap.size := by have := hb1.size; simp at this; omega
  go_upto_region 17 with fail
  refine wp_world (TailV w 2 v noS) ?_ ?_
  · constructor
    case size => first | exact hzx | (simp; exact hzx) | (simp; omega)
    case below => repeat (first | exact Below.refl _ _ | (refine Below.setCell ?_ (by first | (simp; done) | (simp; omega) | omega) _) | (refine Below.alloc ?_ (by first | (simp; done) | (simp; omega) | omega) _) | (refine below_of (by assumption) ?_ (by first | (simp; done) | (simp; omega) | omega)))
    all_goals simp [hc, hf, go_sem]
  · intro wx htl
    obtain ⟨o0, o1, o2, r0, r1, r2, f0, f1, f2, hzw, hbx⟩ := htl
    have hz0 : w.heap.size < wx.heap.size := by omega
    clear hc hf hb1
    have HV : Hid (∀ w : World, Calls Tryd.prog 31 #[V 2 v noS] w fun e w' => e = .returned (.string (valText 2 v noS)) ∧ Below w.heap.size w w') := fun w => valText_spec 2 v noS w
    by_cases he : valText 2 v noS = s
    · have HF : Hid (TvR s 2 v noS true) := TvR.yes he (HNE.out)
      rw [he] at HV
      clear he
      go_wp2_with fail
      refine (HV.out _).mono ?_
      rintro e w2 ⟨rfl, hb2⟩
      obtain ⟨hc2, hf2⟩ := bcell hb2
      have hz2 : w.heap.size + 1 < w2.heap.size := by have := hb2.size; omega
      have hz3 : w.heap.size < w2.heap.size := by omega
      go_wp2
      exact bodyPost_ret (v := cR 2 v noS true) (by simp [results, Tryd.results16, go_sem, hc2, r0, r1, r2, hz0]) rfl ⟨_, _, _, true, rfl, HF, by repeat (first | exact hbx | exact Below.refl _ _ | (refine Below.setCell ?_ (by first | (simp; done) | (simp; omega) | omega) _) | (refine Below.alloc ?_ (by first | (simp; done) | (simp; omega) | omega) _) | (refine below_of hb2 ?_ (by first | (simp; done) | (simp; omega) | omega)))⟩
    · have HF : Hid (TvR s 0 0 noS false) := TvR.no HL.out he
      have hqq : ((valText 2 v noS).toList == s.toList) = false := by
        rw [beq_eq_false_iff_ne, ByteArray.toList_eq, ByteArray.toList_eq]
        intro e; exact he (by rw [← ba_eta (valText 2 v noS), e, ba_eta])
      generalize valText 2 v noS = T at HV hqq
      clear he
      go_wp2_with fail
      refine (HV.out _).mono ?_
      rintro e w2 ⟨rfl, hb2⟩
      obtain ⟨hc2, hf2⟩ := bcell hb2
      have hz2 : w.heap.size + 1 < w2.heap.size := by have := hb2.size; omega
      have hz3 : w.heap.size < w2.heap.size := by omega
      go_wp2
      exact bodyPost_ret (v := cR 0 0 noS false) (by simp [results, Tryd.results16, go_sem, hc2, r0, r1, r2, hz0]) rfl ⟨0, 0, noS, false, rfl, HF, by repeat (first | exact hbx | exact Below.refl _ _ | (refine Below.setCell ?_ (by first | (simp; done) | (simp; omega) | omega) _) | (refine Below.alloc ?_ (by first | (simp; done) | (simp; omega) | omega) _) | (refine below_of hb2 ?_ (by first | (simp; done) | (simp; omega) | omega)))⟩
set_option maxRecDepth 100000 in
set_option maxHeartbeats 2000000 in
theorem textVal_spec_of (s : ByteArray) (hs : s.size ≤ 1048576) (d1 : (s.toList == [116, 114, 117, 101]) = false) (d2 : (s.toList == [102, 97, 108, 115, 101]) = false) (h1 : 1 < s.size) (hq : (s[0].toNat : Int) ≠ 39) (hb : tnB s = false) (w : World) :
    Calls Tryd.prog 16 #[.string s] w fun e w' => ∃ ty n r b, e = .returned (cR ty n r b) ∧ TvR s ty n r b ∧ Below w.heap.size w w' := by
  have HS : Hid (∀ w : World, Calls Tryd.prog 29 #[.string s] w fun e w' => e = .returned (.tuple #[.int .i64 (tnV s), .bool (tnB s)]) ∧ Below w.heap.size w w') := fun w => textNum_spec s hs w
  have hv : tnV s = 0 := by
    unfold tnB at hb
    unfold tnV
    cases ht : textNum s.data.toList with
    | none => rfl
    | some m => rw [ht] at hb; cases hb
  have HL : Hid (∀ ty' n' r', Tv s ty' n' r' → ty' = 0 ∧ n' = 0 ∧ r' = noS) := fun ty' n' r' h => tv_rest s (Or.inr (Or.inr (by rw [head_at s (by omega)]; intro e; rw [Option.some.inj e] at hq; exact hq rfl))) (neT s [116, 114, 117, 101] d1) (neT s [102, 97, 108, 115, 101] d2) hb ty' n' r' h
  have g1 : (1 : Int) < s.size := by omega
  have g2 : ((s[0].toNat : Int) == 39) = false := by simp [hq]
  rw [hb, hv] at HS
  clear hv
  clear hb hq
  go_enter Tryd.func16, Tryd.ntmps16
  go_wp2_with fail
  refine (HS.out _).mono ?_
  rintro e w1 ⟨rfl, hb1⟩
  obtain ⟨hc, hf⟩ := bcell hb1
  have hzx : w.heap.size + 1 < w1.heap.size := by have := hb1.size; simp at this; omega
  go_upto_region 17 with fail
  refine wp_world (TailV w 0 0 noS) ?_ ?_
  · constructor
    case size => first | exact hzx | (simp; exact hzx) | (simp; omega)
    case below => repeat (first | exact Below.refl _ _ | (refine Below.setCell ?_ (by first | (simp; done) | (simp; omega) | omega) _) | (refine Below.alloc ?_ (by first | (simp; done) | (simp; omega) | omega) _) | (refine below_of (by assumption) ?_ (by first | (simp; done) | (simp; omega) | omega)))
    all_goals simp [hc, hf, go_sem]
  · intro wx htl
    obtain ⟨o0, o1, o2, r0, r1, r2, f0, f1, f2, hzw, hbx⟩ := htl
    have hz0 : w.heap.size < wx.heap.size := by omega
    clear hc hf hb1
    have HV : Hid (∀ w : World, Calls Tryd.prog 31 #[V 0 0 noS] w fun e w' => e = .returned (.string (valText 0 0 noS)) ∧ Below w.heap.size w w') := fun w => valText_spec 0 0 noS w
    by_cases he : valText 0 0 noS = s
    · have HF : Hid (TvR s 0 0 noS true) := TvR.yes he (by rw [← he, vt_null]; simp)
      rw [he] at HV
      clear he
      go_wp2_with fail
      refine (HV.out _).mono ?_
      rintro e w2 ⟨rfl, hb2⟩
      obtain ⟨hc2, hf2⟩ := bcell hb2
      have hz2 : w.heap.size + 1 < w2.heap.size := by have := hb2.size; omega
      have hz3 : w.heap.size < w2.heap.size := by omega
      go_wp2
      exact bodyPost_ret (v := cR 0 0 noS true) (by simp [results, Tryd.results16, go_sem, hc2, r0, r1, r2, hz0]) rfl ⟨_, _, _, true, rfl, HF, by repeat (first | exact hbx | exact Below.refl _ _ | (refine Below.setCell ?_ (by first | (simp; done) | (simp; omega) | omega) _) | (refine Below.alloc ?_ (by first | (simp; done) | (simp; omega) | omega) _) | (refine below_of hb2 ?_ (by first | (simp; done) | (simp; omega) | omega)))⟩
    · have HF : Hid (TvR s 0 0 noS false) := TvR.no HL.out he
      have hqq : ((valText 0 0 noS).toList == s.toList) = false := by
        rw [beq_eq_false_iff_ne, ByteArray.toList_eq, ByteArray.toList_eq]
        intro e; exact he (by rw [← ba_eta (valText 0 0 noS), e, ba_eta])
      generalize valText 0 0 noS = T at HV hqq
      clear he
      go_wp2_with fail
      refine (HV.out _).mono ?_
      rintro e w2 ⟨rfl, hb2⟩
      obtain ⟨hc2, hf2⟩ := bcell hb2
      have hz2 : w.heap.size + 1 < w2.heap.size := by have := hb2.size; omega
      have hz3 : w.heap.size < w2.heap.size := by omega
      go_wp2
      exact bodyPost_ret (v := cR 0 0 noS false) (by simp [results, Tryd.results16, go_sem, hc2, r0, r1, r2, hz0]) rfl ⟨0, 0, noS, false, rfl, HF, by repeat (first | exact hbx | exact Below.refl _ _ | (refine Below.setCell ?_ (by first | (simp; done) | (simp; omega) | omega) _) | (refine Below.alloc ?_ (by first | (simp; done) | (simp; omega) | omega) _) | (refine below_of hb2 ?_ (by first | (simp; done) | (simp; omega) | omega)))⟩

/-- spec.TextVal -/
theorem textVal_spec (s : ByteArray) (hs : s.size ≤ 1048576) (w : World) :
    Calls Tryd.prog 16 #[.string s] w fun e w' => ∃ ty n r b, e = .returned (cR ty n r b) ∧ TvR s ty n r b ∧ Below w.heap.size w w' := by
  cases d1 : s.toList == [116, 114, 117, 101]
  · cases d2 : s.toList == [102, 97, 108, 115, 101]
    · by_cases h1 : 1 < s.size
      · by_cases hq : (s[0].toNat : Int) = 39
        · by_cases h94 : s.size < 94
          · exact textVal_spec_q s h1 h94 hq w
          · cases hb : tnB s
            · exact textVal_spec_bf s hs d1 d2 (by omega) hq hb w
            · exact textVal_spec_bt s hs d1 d2 (by omega) hq hb w
        · cases hb : tnB s
          · exact textVal_spec_of s hs d1 d2 h1 hq hb w
          · exact textVal_spec_ot s hs d1 d2 h1 hq hb w
      · cases hb : tnB s
        · exact textVal_spec_sf s hs d1 d2 (by omega) hb w
        · exact textVal_spec_st s hs d1 d2 (by omega) hb w
    · exact textVal_spec_f s d2 d1 w
  · exact textVal_spec_t s d1 w
end Go.Proofs.YtmkgbdgafjeeiamDoor
