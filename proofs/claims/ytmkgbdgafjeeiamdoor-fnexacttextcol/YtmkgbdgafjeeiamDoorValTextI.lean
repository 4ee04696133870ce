/- The contract of the landed ValText. -/
import Derived.Test.YtmkgbdgafjeeiamDoorTextI
import Derived.Test.YtmkgbdgafjeeiamDoorCastF
namespace Go.Proofs.YtmkgbdgafjeeiamDoor
open Go.ChangeShapes Go.WideShapes Go.ChangeAt Go.RowKit

abbrev tNull : ByteArray := ⟨#[110, 117, 108, 108]⟩
/-- What ValText answers. -/
def valText (ty n : Int) (s : ByteArray) : ByteArray :=
  if okB ty n s = false then noS else if ty = 0 then tNull else if ty = 1 then bS (n == 1) else if ty = 2 then ⟨(numText n).toArray⟩ else ⟨(quoted s).toArray⟩

theorem text_null (w : World) : Calls Tryd.prog 102 #[.agg #[]] w fun e w' => e = .returned (.string tNull) ∧ w' = w.alloc (.cells #[] 74) := by
  go_enter Tryd.func102, Tryd.ntmps102
  go_wp2
  go_ret
  exact ⟨rfl, rfl⟩

set_option maxRecDepth 100000 in
theorem valText_not (ty n : Int) (s : ByteArray) (h : okB ty n s = false) (w : World) : Calls Tryd.prog 28 #[V ty n s] w fun e w' => e = .returned (.string noS) ∧ Below w.heap.size w w' := by
  have HK : Hid (okB ty n s = _) := h
  clear h
  go_enter Tryd.func28, Tryd.ntmps28
  go_wp2_with fail
  refine (within_any _ _ _ _).mono ?_
  rw [HK.out]
  rintro e w1 ⟨rfl, k, rfl⟩
  go_wp2
  go_ret
  exact ⟨rfl, by repeat (first | exact Below.refl _ _ | refine Below.drew ?_ | refine below_draws _ ?_ | (refine Below.setCell ?_ (by first | (simp; done) | (simp; omega) | omega) _) | (refine Below.alloc ?_ (by first | (simp; done) | (simp; omega) | omega) _) | (refine below_of (by assumption) ?_ (by first | (simp; done) | (simp; omega) | omega)))⟩

set_option maxRecDepth 100000 in
theorem valText_null (h : okB 0 0 noS = true) (w : World) : Calls Tryd.prog 28 #[V 0 0 noS] w fun e w' => e = .returned (.string tNull) ∧ Below w.heap.size w w' := by
  have HK : Hid (okB 0 0 noS = _) := h
  have f5 := mt_null
  clear h
  go_enter Tryd.func28, Tryd.ntmps28
  go_wp2_with fail
  refine (within_any _ _ _ _).mono ?_
  rw [HK.out, in0]
  rintro e w1 ⟨rfl, k, rfl⟩
  go_wp2_with (go_at_call 102; refine (text_null _).mono ?_; rintro e w2 ⟨rfl, rfl⟩)
  go_ret
  exact ⟨rfl, by repeat (first | exact Below.refl _ _ | refine Below.drew ?_ | refine below_draws _ ?_ | (refine Below.setCell ?_ (by first | (simp; done) | (simp; omega) | omega) _) | (refine Below.alloc ?_ (by first | (simp; done) | (simp; omega) | omega) _) | (refine below_of (by assumption) ?_ (by first | (simp; done) | (simp; omega) | omega)))⟩

set_option maxRecDepth 100000 in
theorem valText_bool (n : Int) (h : okB 1 n noS = true) (w : World) : Calls Tryd.prog 28 #[V 1 n noS] w fun e w' => e = .returned (.string (bS (n == 1))) ∧ Below w.heap.size w w' := by
  have HK : Hid (okB 1 n noS = _) := h
  have f5 := mt_bool (n == 1)
  clear h
  go_enter Tryd.func28, Tryd.ntmps28
  go_wp2_with fail
  refine (within_any _ _ _ _).mono ?_
  rw [HK.out, in1]
  rintro e w1 ⟨rfl, k, rfl⟩
  go_wp2_with (go_at_call 104; refine (text_bool _ _).mono ?_; rintro e w2 ⟨rfl, rfl⟩)
  go_ret
  exact ⟨rfl, by repeat (first | exact Below.refl _ _ | refine Below.drew ?_ | refine below_draws _ ?_ | (refine Below.setCell ?_ (by first | (simp; done) | (simp; omega) | omega) _) | (refine Below.alloc ?_ (by first | (simp; done) | (simp; omega) | omega) _) | (refine below_of (by assumption) ?_ (by first | (simp; done) | (simp; omega) | omega)))⟩

set_option maxRecDepth 100000 in
theorem valText_int (n : Int) (h : okB 2 n noS = true) (w : World) (hT : Tab w) : Calls Tryd.prog 28 #[V 2 n noS] w fun e w' => e = .returned (str (numText n)) ∧ Below w.heap.size w w' := by
  have HK : Hid (okB 2 n noS = _) := h
  have HT : Hid (Tab w) := hT
  have HS : Hid (∀ w : World, Tab w → Calls Tryd.prog 106 #[.int .i64 n] w fun e w' => e = .returned (str (numText n)) ∧ Below w.heap.size w w') := fun w h => text_int n w h
  generalize numText n = L at HS
  have f5 := mt_int n
  clear h hT
  go_enter Tryd.func28, Tryd.ntmps28
  go_wp2_with fail
  refine (within_any _ _ _ _).mono ?_
  rw [HK.out, in2]
  rintro e w1 ⟨rfl, k, rfl⟩
  go_wp2_with (go_at_call 106; refine (HS.out _ (HT.out.on (by repeat (first | exact Below.refl _ _ | refine Below.drew ?_ | refine below_draws _ ?_ | (refine Below.setCell ?_ (by first | (simp; done) | (simp; omega) | omega) _) | (refine Below.alloc ?_ (by first | (simp; done) | (simp; omega) | omega) _) | (refine below_of (by assumption) ?_ (by first | (simp; done) | (simp; omega) | omega)))))).mono ?_; rintro e w2 ⟨rfl, hb2⟩)
  go_ret
  exact ⟨rfl, by repeat (first | exact Below.refl _ _ | refine Below.drew ?_ | refine below_draws _ ?_ | (refine Below.setCell ?_ (by first | (simp; done) | (simp; omega) | omega) _) | (refine Below.alloc ?_ (by first | (simp; done) | (simp; omega) | omega) _) | (refine below_of (by assumption) ?_ (by first | (simp; done) | (simp; omega) | omega)))⟩

set_option maxRecDepth 100000 in
theorem valText_text (s : ByteArray) (hs : s.size ≤ 30) (h : okB 3 0 s = true) (w : World) : Calls Tryd.prog 28 #[V 3 0 s] w fun e w' => e = .returned (str (quoted s)) ∧ Below w.heap.size w w' := by
  have HK : Hid (okB 3 0 s = _) := h
  have HS : Hid (∀ w : World, Calls Tryd.prog 108 #[.string s] w fun e w' => e = .returned (str (quoted s)) ∧ Below w.heap.size w w') := fun w => text_text s (by omega) w
  generalize quoted s = L at HS
  have f5 := mt_text s
  clear h
  go_enter Tryd.func28, Tryd.ntmps28
  go_wp2_with fail
  refine (within_any _ _ _ _).mono ?_
  rw [HK.out, in3]
  rintro e w1 ⟨rfl, k, rfl⟩
  go_wp2_with (go_at_call 108; refine (HS.out _).mono ?_; rintro e w2 ⟨rfl, hb2⟩)
  go_ret
  exact ⟨rfl, by repeat (first | exact Below.refl _ _ | refine Below.drew ?_ | refine below_draws _ ?_ | (refine Below.setCell ?_ (by first | (simp; done) | (simp; omega) | omega) _) | (refine Below.alloc ?_ (by first | (simp; done) | (simp; omega) | omega) _) | (refine below_of (by assumption) ?_ (by first | (simp; done) | (simp; omega) | omega)))⟩

/-- impl.ValText -/
theorem valText_impl (ty n : Int) (s : ByteArray) (w : World) (hT : Tab w) : Calls Tryd.prog 28 #[V ty n s] w fun e w' => e = .returned (.string (valText ty n s)) ∧ Below w.heap.size w w' := by
  cases h : okB ty n s
  · have e : valText ty n s = noS := by rw [valText, if_pos h]
    rw [e]; exact valText_not ty n s h w
  have hh : ¬ okB ty n s = false := by rw [h]; simp
  rcases ok_cases ty n s h with ⟨rfl, rfl, rfl⟩ | ⟨rfl, hn, rfl⟩ | ⟨rfl, hn, rfl⟩ | ⟨rfl, rfl, hs⟩
  · have e : valText 0 0 noS = tNull := by rw [valText, if_neg hh, if_pos rfl]
    rw [e]; exact valText_null h w
  · have e : valText 1 n noS = bS (n == 1) := by rw [valText, if_neg hh, if_neg (by decide), if_pos rfl]
    rw [e]; exact valText_bool n h w
  · have e : valText 2 n noS = ⟨(numText n).toArray⟩ := by rw [valText, if_neg hh, if_neg (by decide), if_neg (by decide), if_pos rfl]
    rw [e]; exact valText_int n h w hT
  · have e : valText 3 0 s = ⟨(quoted s).toArray⟩ := by rw [valText, if_neg hh, if_neg (by decide), if_neg (by decide), if_neg (by decide)]
    rw [e]; exact valText_text s hs h w

theorem ret_u8 {a b : Int} (h : a = b) : Ending.returned (.int .u8 a) = .returned (.int .u8 b) := by rw [h]

theorem own_onw (B : Nat) (w : World) (x : UInt8) (hB : B ≤ w.heap.size) : OwnT B (w.alloc (.cells #[.int .u8 x.toNat] 5)) (.slice (some ⟨w.heap.size, 0, none⟩) 1 1) [x] :=
  ⟨rfl, Or.inr ⟨w.heap.size, 1, #[.int .u8 x.toNat], rfl, hB, heap_alloc_new _ _, Nat.le_refl _, by unfold maxLen; omega, rfl, rfl⟩⟩
theorem hi_eq (c : UInt8) : ((c.toNat : Int) / 16).toNat = c.toNat / 16 := by omega
theorem lo_eq (c : UInt8) : ((c.toNat : Int) % 16).toNat = c.toNat % 16 := by omega
end Go.Proofs.YtmkgbdgafjeeiamDoor
