/- The given Cast: its contract. -/
import Derived.Test.YtmgoplamocgfladDoorCastF
import Derived.Deep.DeepCutAuto
namespace Go.Proofs.YtmgoplamocgfladDoor
open Go.ChangeShapes Go.WideShapes Go.ChangeAt Go.RowKit

theorem okB_null : okB 0 0 noS = true := by simp [okB, ByteArray.toList_eq]

/-- What Cast's tail finds in memory: what it will hand out, and the place of its answer. -/
structure Tail (w : World) (t n : Int) (s : ByteArray) (wx : World) : Prop where
  o0 : wx.cell? ⟨w.heap.size + 1 + 1 + 1, 0, none⟩ = some (.int .i64 t)
  o1 : wx.cell? ⟨w.heap.size + 1 + 1 + 1, 1, none⟩ = some (.int .i64 n)
  o2 : wx.cell? ⟨w.heap.size + 1 + 1 + 1, 2, none⟩ = some (.string s)
  r0 : wx.cell? ⟨w.heap.size + 1, 0, none⟩ = some (.int .i64 0)
  r1 : wx.cell? ⟨w.heap.size + 1, 1, none⟩ = some (.int .i64 0)
  r2 : wx.cell? ⟨w.heap.size + 1, 2, none⟩ = some (.string noS)
  f0 : wx.frozen? ⟨w.heap.size + 1, 0, none⟩ = false
  f1 : wx.frozen? ⟨w.heap.size + 1, 1, none⟩ = false
  f2 : wx.frozen? ⟨w.heap.size + 1, 2, none⟩ = false
  size : w.heap.size + 1 + 1 + 1 < wx.heap.size
  below : Below w.heap.size w wx

theorem wp_world {P : Program} {c : Code} {Q : Exit → Act → World → Prop} {a : Act} {W : World} (R : World → Prop) (h : R W) (k : ∀ wx, R wx → Code.wp P c Q a wx) : Code.wp P c Q a W := k W h

set_option maxRecDepth 100000 in
set_option maxHeartbeats 1000000 in
theorem cast_spec_not (ty n : Int) (s : ByteArray) (tg : Int) (h : okB ty n s = false) (w : World) : Calls Tryd.prog 12 #[V ty n s, .int .i64 tg] w fun e w' => e = .returned (cR 0 0 noS false) ∧ Below w.heap.size w w' := by
  have HK1 : Hid (okB ty n s = _) := h
  clear h
  go_enter Tryd.func12, Tryd.ntmps12
  go_wp2_with (go_at_call 7; refine (ok_spec _ _ _ _).mono ?_; rw [HK1.out]; rintro e w' ⟨rfl, rfl⟩)
  exact bodyPost_ret (v := cR 0 0 noS false) (by simp [results, Tryd.results12, go_sem]) rfl ⟨rfl, by repeat (first | exact Below.refl _ _ | refine Below.drew ?_ | refine below_draws _ ?_ | (refine Below.setCell ?_ (by first | (simp; done) | (simp; omega) | omega) _) | (refine Below.alloc ?_ (by first | (simp; done) | (simp; omega) | omega) _) | (refine below_of (by assumption) ?_ (by first | (simp; done) | (simp; omega) | omega)))⟩
set_option maxRecDepth 100000 in
set_option maxHeartbeats 1000000 in
theorem cast_spec_low (ty n : Int) (s : ByteArray) (tg : Int) (h : okB ty n s = true) (ht : tg < 1) (w : World) : Calls Tryd.prog 12 #[V ty n s, .int .i64 tg] w fun e w' => e = .returned (cR 0 0 noS false) ∧ Below w.heap.size w w' := by
  have HK1 : Hid (okB ty n s = _) := h
  clear h
  go_enter Tryd.func12, Tryd.ntmps12
  go_wp2_with (go_at_call 7; refine (ok_spec _ _ _ _).mono ?_; rw [HK1.out]; rintro e w' ⟨rfl, rfl⟩)
  exact bodyPost_ret (v := cR 0 0 noS false) (by simp [results, Tryd.results12, go_sem]) rfl ⟨rfl, by repeat (first | exact Below.refl _ _ | refine Below.drew ?_ | refine below_draws _ ?_ | (refine Below.setCell ?_ (by first | (simp; done) | (simp; omega) | omega) _) | (refine Below.alloc ?_ (by first | (simp; done) | (simp; omega) | omega) _) | (refine below_of (by assumption) ?_ (by first | (simp; done) | (simp; omega) | omega)))⟩
set_option maxRecDepth 100000 in
set_option maxHeartbeats 1000000 in
theorem cast_spec_high (ty n : Int) (s : ByteArray) (tg : Int) (h : okB ty n s = true) (ht : 3 < tg) (w : World) : Calls Tryd.prog 12 #[V ty n s, .int .i64 tg] w fun e w' => e = .returned (cR 0 0 noS false) ∧ Below w.heap.size w w' := by
  have HK1 : Hid (okB ty n s = _) := h
  clear h
  go_enter Tryd.func12, Tryd.ntmps12
  go_wp2_with (go_at_call 7; refine (ok_spec _ _ _ _).mono ?_; rw [HK1.out]; rintro e w' ⟨rfl, rfl⟩)
  exact bodyPost_ret (v := cR 0 0 noS false) (by simp [results, Tryd.results12, go_sem]) rfl ⟨rfl, by repeat (first | exact Below.refl _ _ | refine Below.drew ?_ | refine below_draws _ ?_ | (refine Below.setCell ?_ (by first | (simp; done) | (simp; omega) | omega) _) | (refine Below.alloc ?_ (by first | (simp; done) | (simp; omega) | omega) _) | (refine below_of (by assumption) ?_ (by first | (simp; done) | (simp; omega) | omega)))⟩
set_option maxRecDepth 100000 in
set_option maxHeartbeats 1000000 in
theorem cast_spec_null1 (w : World) : Calls Tryd.prog 12 #[V 0 0 noS, .int .i64 1] w fun e w' => e = .returned (cR 0 0 noS true) ∧ Below w.heap.size w w' := by
  have HK1 : Hid (okB 0 0 noS = true) := okB_null
  go_enter Tryd.func12, Tryd.ntmps12
  go_wp2_with (go_at_call 7; refine (ok_spec _ _ _ _).mono ?_; rw [HK1.out]; rintro e w' ⟨rfl, rfl⟩)
  exact bodyPost_ret (v := cR 0 0 noS true) (by simp [results, Tryd.results12, go_sem]) rfl ⟨rfl, by repeat (first | exact Below.refl _ _ | refine Below.drew ?_ | refine below_draws _ ?_ | (refine Below.setCell ?_ (by first | (simp; done) | (simp; omega) | omega) _) | (refine Below.alloc ?_ (by first | (simp; done) | (simp; omega) | omega) _) | (refine below_of (by assumption) ?_ (by first | (simp; done) | (simp; omega) | omega)))⟩
set_option maxRecDepth 100000 in
set_option maxHeartbeats 1000000 in
theorem cast_spec_same1 (n : Int) (s : ByteArray) (h : okB 1 n s = true) (w : World) : Calls Tryd.prog 12 #[V 1 n s, .int .i64 1] w fun e w' => e = .returned (cR 1 n s true) ∧ Below w.heap.size w w' := by
  have HK1 : Hid (okB 1 n s = _) := h
  clear h
  go_enter Tryd.func12, Tryd.ntmps12
  go_wp2_with (go_at_call 7; refine (ok_spec _ _ _ _).mono ?_; rw [HK1.out]; rintro e w' ⟨rfl, rfl⟩)
  exact bodyPost_ret (v := cR 1 n s true) (by simp [results, Tryd.results12, go_sem]) rfl ⟨rfl, by repeat (first | exact Below.refl _ _ | refine Below.drew ?_ | refine below_draws _ ?_ | (refine Below.setCell ?_ (by first | (simp; done) | (simp; omega) | omega) _) | (refine Below.alloc ?_ (by first | (simp; done) | (simp; omega) | omega) _) | (refine below_of (by assumption) ?_ (by first | (simp; done) | (simp; omega) | omega)))⟩
set_option maxRecDepth 100000 in
set_option maxHeartbeats 1000000 in
theorem cast_spec_null2 (w : World) : Calls Tryd.prog 12 #[V 0 0 noS, .int .i64 2] w fun e w' => e = .returned (cR 0 0 noS true) ∧ Below w.heap.size w w' := by
  have HK1 : Hid (okB 0 0 noS = true) := okB_null
  go_enter Tryd.func12, Tryd.ntmps12
  go_wp2_with (go_at_call 7; refine (ok_spec _ _ _ _).mono ?_; rw [HK1.out]; rintro e w' ⟨rfl, rfl⟩)
  exact bodyPost_ret (v := cR 0 0 noS true) (by simp [results, Tryd.results12, go_sem]) rfl ⟨rfl, by repeat (first | exact Below.refl _ _ | refine Below.drew ?_ | refine below_draws _ ?_ | (refine Below.setCell ?_ (by first | (simp; done) | (simp; omega) | omega) _) | (refine Below.alloc ?_ (by first | (simp; done) | (simp; omega) | omega) _) | (refine below_of (by assumption) ?_ (by first | (simp; done) | (simp; omega) | omega)))⟩
set_option maxRecDepth 100000 in
set_option maxHeartbeats 1000000 in
theorem cast_spec_same2 (n : Int) (s : ByteArray) (h : okB 2 n s = true) (w : World) : Calls Tryd.prog 12 #[V 2 n s, .int .i64 2] w fun e w' => e = .returned (cR 2 n s true) ∧ Below w.heap.size w w' := by
  have HK1 : Hid (okB 2 n s = _) := h
  clear h
  go_enter Tryd.func12, Tryd.ntmps12
  go_wp2_with (go_at_call 7; refine (ok_spec _ _ _ _).mono ?_; rw [HK1.out]; rintro e w' ⟨rfl, rfl⟩)
  exact bodyPost_ret (v := cR 2 n s true) (by simp [results, Tryd.results12, go_sem]) rfl ⟨rfl, by repeat (first | exact Below.refl _ _ | refine Below.drew ?_ | refine below_draws _ ?_ | (refine Below.setCell ?_ (by first | (simp; done) | (simp; omega) | omega) _) | (refine Below.alloc ?_ (by first | (simp; done) | (simp; omega) | omega) _) | (refine below_of (by assumption) ?_ (by first | (simp; done) | (simp; omega) | omega)))⟩
set_option maxRecDepth 100000 in
set_option maxHeartbeats 1000000 in
theorem cast_spec_null3 (w : World) : Calls Tryd.prog 12 #[V 0 0 noS, .int .i64 3] w fun e w' => e = .returned (cR 0 0 noS true) ∧ Below w.heap.size w w' := by
  have HK1 : Hid (okB 0 0 noS = true) := okB_null
  go_enter Tryd.func12, Tryd.ntmps12
  go_wp2_with (go_at_call 7; refine (ok_spec _ _ _ _).mono ?_; rw [HK1.out]; rintro e w' ⟨rfl, rfl⟩)
  exact bodyPost_ret (v := cR 0 0 noS true) (by simp [results, Tryd.results12, go_sem]) rfl ⟨rfl, by repeat (first | exact Below.refl _ _ | refine Below.drew ?_ | refine below_draws _ ?_ | (refine Below.setCell ?_ (by first | (simp; done) | (simp; omega) | omega) _) | (refine Below.alloc ?_ (by first | (simp; done) | (simp; omega) | omega) _) | (refine below_of (by assumption) ?_ (by first | (simp; done) | (simp; omega) | omega)))⟩
set_option maxRecDepth 100000 in
set_option maxHeartbeats 1000000 in
theorem cast_spec_same3 (n : Int) (s : ByteArray) (h : okB 3 n s = true) (w : World) : Calls Tryd.prog 12 #[V 3 n s, .int .i64 3] w fun e w' => e = .returned (cR 3 n s true) ∧ Below w.heap.size w w' := by
  have HK1 : Hid (okB 3 n s = _) := h
  clear h
  go_enter Tryd.func12, Tryd.ntmps12
  go_wp2_with (go_at_call 7; refine (ok_spec _ _ _ _).mono ?_; rw [HK1.out]; rintro e w' ⟨rfl, rfl⟩)
  exact bodyPost_ret (v := cR 3 n s true) (by simp [results, Tryd.results12, go_sem]) rfl ⟨rfl, by repeat (first | exact Below.refl _ _ | refine Below.drew ?_ | refine below_draws _ ?_ | (refine Below.setCell ?_ (by first | (simp; done) | (simp; omega) | omega) _) | (refine Below.alloc ?_ (by first | (simp; done) | (simp; omega) | omega) _) | (refine below_of (by assumption) ?_ (by first | (simp; done) | (simp; omega) | omega)))⟩
set_option maxRecDepth 100000 in
set_option maxHeartbeats 1000000 in
theorem cast_spec_12 (n : Int) (h : okB 1 n noS = true) (h2 : okB 2 n noS = true) (w : World) : Calls Tryd.prog 12 #[V 1 n noS, .int .i64 2] w fun e w' => e = .returned (cR 2 n noS true) ∧ Below w.heap.size w w' := by
  have HK1 : Hid (okB 1 n noS = _) := h
  have HK2 : Hid (okB 2 n noS = _) := h2
  clear h h2
  go_enter Tryd.func12, Tryd.ntmps12
  go_wp2_with fail
  refine (ok_spec _ _ _ _).mono ?_
  rw [HK1.out]
  rintro e w' ⟨rfl, rfl⟩
  go_wp2_with fail
  refine (ok_spec _ _ _ _).mono ?_
  rw [HK2.out]
  rintro e w' ⟨rfl, rfl⟩
  go_wp2
  exact bodyPost_ret (v := cR 2 n noS true) (by simp [results, Tryd.results12, go_sem]) rfl ⟨rfl, by repeat (first | exact Below.refl _ _ | refine Below.drew ?_ | refine below_draws _ ?_ | (refine Below.setCell ?_ (by first | (simp; done) | (simp; omega) | omega) _) | (refine Below.alloc ?_ (by first | (simp; done) | (simp; omega) | omega) _) | (refine below_of (by assumption) ?_ (by first | (simp; done) | (simp; omega) | omega)))⟩
set_option maxRecDepth 100000 in
set_option maxHeartbeats 1000000 in
theorem cast_spec_21t (n : Int) (h : okB 2 n noS = true) (h2 : okB 1 n noS = true) (w : World) : Calls Tryd.prog 12 #[V 2 n noS, .int .i64 1] w fun e w' => e = .returned (cR 1 n noS true) ∧ Below w.heap.size w w' := by
  have HK1 : Hid (okB 2 n noS = _) := h
  have HK2 : Hid (okB 1 n noS = _) := h2
  clear h h2
  go_enter Tryd.func12, Tryd.ntmps12
  go_wp2_with fail
  refine (ok_spec _ _ _ _).mono ?_
  rw [HK1.out]
  rintro e w' ⟨rfl, rfl⟩
  go_wp2_with fail
  refine (ok_spec _ _ _ _).mono ?_
  rw [HK2.out]
  rintro e w' ⟨rfl, rfl⟩
  go_wp2
  exact bodyPost_ret (v := cR 1 n noS true) (by simp [results, Tryd.results12, go_sem]) rfl ⟨rfl, by repeat (first | exact Below.refl _ _ | refine Below.drew ?_ | refine below_draws _ ?_ | (refine Below.setCell ?_ (by first | (simp; done) | (simp; omega) | omega) _) | (refine Below.alloc ?_ (by first | (simp; done) | (simp; omega) | omega) _) | (refine below_of (by assumption) ?_ (by first | (simp; done) | (simp; omega) | omega)))⟩
set_option maxRecDepth 100000 in
set_option maxHeartbeats 1000000 in
theorem cast_spec_21f (n : Int) (h : okB 2 n noS = true) (h2 : okB 1 n noS = false) (w : World) : Calls Tryd.prog 12 #[V 2 n noS, .int .i64 1] w fun e w' => e = .returned (cR 0 0 noS false) ∧ Below w.heap.size w w' := by
  have HK1 : Hid (okB 2 n noS = _) := h
  have HK2 : Hid (okB 1 n noS = _) := h2
  clear h h2
  go_enter Tryd.func12, Tryd.ntmps12
  go_wp2_with fail
  refine (ok_spec _ _ _ _).mono ?_
  rw [HK1.out]
  rintro e w' ⟨rfl, rfl⟩
  go_wp2_with fail
  refine (ok_spec _ _ _ _).mono ?_
  rw [HK2.out]
  rintro e w' ⟨rfl, rfl⟩
  go_wp2
  exact bodyPost_ret (v := cR 0 0 noS false) (by simp [results, Tryd.results12, go_sem]) rfl ⟨rfl, by repeat (first | exact Below.refl _ _ | refine Below.drew ?_ | refine below_draws _ ?_ | (refine Below.setCell ?_ (by first | (simp; done) | (simp; omega) | omega) _) | (refine Below.alloc ?_ (by first | (simp; done) | (simp; omega) | omega) _) | (refine below_of (by assumption) ?_ (by first | (simp; done) | (simp; omega) | omega)))⟩
set_option maxRecDepth 100000 in
set_option maxHeartbeats 1000000 in
theorem cast_spec_23 (n : Int) (T : ByteArray) (h : okB 2 n noS = true) (h2 : okB 3 0 T = true) (HS : Hid (∀ w : World, Calls Tryd.prog 22 #[.int .i64 n] w fun e w' => e = .returned (.string T) ∧ Below w.heap.size w w')) (w : World) : Calls Tryd.prog 12 #[V 2 n noS, .int .i64 3] w fun e w' => e = .returned (cR 3 0 T true) ∧ Below w.heap.size w w' := by
  have HK1 : Hid (okB 2 n noS = _) := h
  have HK2 : Hid (okB 3 0 T = _) := h2
  clear h h2
  go_enter Tryd.func12, Tryd.ntmps12
  go_wp2_with fail
  refine (ok_spec _ _ _ _).mono ?_
  rw [HK1.out]
  rintro e w' ⟨rfl, rfl⟩
  go_wp2_with fail
  refine (HS.out _).mono ?_
  rintro e w1 ⟨rfl, hb1⟩
  obtain ⟨hc, hf⟩ := bcell hb1
  have hz : w.heap.size + 1 + 1 + 1 < w1.heap.size := by have := hb1.size; simp at this; omega
  go_upto_region 21 with fail
  refine wp_world (Tail w 3 0 T) ?_ ?_
  · constructor
    case size => simpa using hz
    case below => repeat (first | exact Below.refl _ _ | (refine Below.setCell ?_ (by first | (simp; done) | (simp; omega) | omega) _) | (refine Below.alloc ?_ (by first | (simp; done) | (simp; omega) | omega) _) | (refine below_of (by assumption) ?_ (by first | (simp; done) | (simp; omega) | omega)))
    all_goals simp [hc, hf, go_sem]
  · intro wx ht
    obtain ⟨o0, o1, o2, r0, r1, r2, f0, f1, f2, hzx, hbx⟩ := ht
    have hz1 : w.heap.size + 1 < wx.heap.size := by omega
    clear hc hf hz hb1
    go_wp2_with fail
    refine (ok_spec _ _ _ _).mono ?_
    rw [HK2.out]
    rintro e w' ⟨rfl, rfl⟩
    go_wp2
    exact bodyPost_ret (v := cR 3 0 T true) (by simp [results, Tryd.results12, go_sem, r0, r1, r2, hz1]) rfl ⟨rfl, by repeat (first | exact hbx | exact Below.refl _ _ | (refine Below.setCell ?_ (by first | (simp; done) | (simp; omega) | omega) _) | (refine Below.alloc ?_ (by first | (simp; done) | (simp; omega) | omega) _))⟩
set_option maxRecDepth 100000 in
set_option maxHeartbeats 1000000 in
theorem cast_spec_13 (n : Int) (L : List UInt8) (h : okB 1 n noS = true) (h2 : okB 3 0 (bS (n == 1)) = true) (HS : Hid (∀ w : World, Calls Tryd.prog 22 #[.int .i64 n] w fun e w' => e = .returned (str L) ∧ Below w.heap.size w w')) (w : World) : Calls Tryd.prog 12 #[V 1 n noS, .int .i64 3] w fun e w' => e = .returned (cR 3 0 (bS (n == 1)) true) ∧ Below w.heap.size w w' := by
  have HK1 : Hid (okB 1 n noS = _) := h
  have HK2 : Hid (okB 3 0 (bS (n == 1)) = _) := h2
  have HB : Hid (∀ w : World, Calls Tryd.prog 23 #[.int .i64 n] w fun e w' => e = .returned (.string (bS (n == 1))) ∧ w' = w) := fun w => bool_spec n w
  generalize bS (n == 1) = T at HK2 HB
  clear h h2
  go_enter Tryd.func12, Tryd.ntmps12
  go_wp2_with fail
  refine (ok_spec _ _ _ _).mono ?_
  rw [HK1.out]
  rintro e w' ⟨rfl, rfl⟩
  go_wp2_with fail
  refine (HS.out _).mono ?_
  rintro e w1 ⟨rfl, hb1⟩
  obtain ⟨hc, hf⟩ := bcell hb1
  have hz : w.heap.size + 1 + 1 + 1 < w1.heap.size := by have := hb1.size; simp at this; omega
  go_wp2_with fail
  refine (HB.out _).mono ?_
  rintro e w2 ⟨rfl, hw⟩
  subst w2
  go_upto_region 21 with fail
  refine wp_world (Tail w 3 0 T) ?_ ?_
  · constructor
    case o2 => exact World.cell?_setCell_same' _ _ _ (by simp [hc, go_sem])
    case size => simpa using hz
    case below => repeat (first | exact Below.refl _ _ | (refine Below.setCell ?_ (by first | (simp; done) | (simp; omega) | omega) _) | (refine Below.alloc ?_ (by first | (simp; done) | (simp; omega) | omega) _) | (refine below_of (by assumption) ?_ (by first | (simp; done) | (simp; omega) | omega)))
    all_goals simp [hc, hf, go_sem]
  · intro wx ht
    obtain ⟨o0, o1, o2, r0, r1, r2, f0, f1, f2, hzx, hbx⟩ := ht
    have hz1 : w.heap.size + 1 < wx.heap.size := by omega
    clear hc hf hz hb1
    go_wp2_with fail
    refine (ok_spec _ _ _ _).mono ?_
    rw [HK2.out]
    rintro e w' ⟨rfl, rfl⟩
    go_wp2
    exact bodyPost_ret (v := cR 3 0 T true) (by simp [results, Tryd.results12, go_sem, r0, r1, r2, hz1]) rfl ⟨rfl, by repeat (first | exact hbx | exact Below.refl _ _ | (refine Below.setCell ?_ (by first | (simp; done) | (simp; omega) | omega) _) | (refine Below.alloc ?_ (by first | (simp; done) | (simp; omega) | omega) _))⟩
set_option maxRecDepth 100000 in
set_option maxHeartbeats 1000000 in
theorem cast_spec_31t (s : ByteArray) (h : okB 3 0 s = true) (g0 : isTrue s = true) (w : World) : Calls Tryd.prog 12 #[V 3 0 s, .int .i64 1] w fun e w' => e = .returned (cR 1 1 noS true) ∧ Below w.heap.size w w' := by
  have HK1 : Hid (okB 3 0 s = _) := h
  unfold isTrue at g0
  rw [ByteArray.toList_eq tTrue] at g0
  have HK2 : Hid (okB 1 1 noS = true) := by show _ = _; simp [okB, ByteArray.toList_eq]
  clear h
  go_enter Tryd.func12, Tryd.ntmps12
  go_wp2_with fail
  refine (ok_spec _ _ _ _).mono ?_
  rw [HK1.out]
  rintro e w' ⟨rfl, rfl⟩
  go_wp2_with fail
  refine (ok_spec _ _ _ _).mono ?_
  rw [HK2.out]
  rintro e w' ⟨rfl, rfl⟩
  go_wp2
  exact bodyPost_ret (v := cR 1 1 noS true) (by simp [results, Tryd.results12, go_sem]) rfl ⟨rfl, by repeat (first | exact Below.refl _ _ | refine Below.drew ?_ | refine below_draws _ ?_ | (refine Below.setCell ?_ (by first | (simp; done) | (simp; omega) | omega) _) | (refine Below.alloc ?_ (by first | (simp; done) | (simp; omega) | omega) _) | (refine below_of (by assumption) ?_ (by first | (simp; done) | (simp; omega) | omega)))⟩
set_option maxRecDepth 100000 in
set_option maxHeartbeats 1000000 in
theorem cast_spec_31f (s : ByteArray) (h : okB 3 0 s = true) (g0 : isTrue s = false) (g1 : isFalse s = true) (w : World) : Calls Tryd.prog 12 #[V 3 0 s, .int .i64 1] w fun e w' => e = .returned (cR 1 0 noS true) ∧ Below w.heap.size w w' := by
  have HK1 : Hid (okB 3 0 s = _) := h
  unfold isTrue at g0
  rw [ByteArray.toList_eq tTrue] at g0
  unfold isFalse at g1
  rw [ByteArray.toList_eq tFalse] at g1
  have HK2 : Hid (okB 1 0 noS = true) := by show _ = _; simp [okB, ByteArray.toList_eq]
  clear h
  go_enter Tryd.func12, Tryd.ntmps12
  go_wp2_with fail
  refine (ok_spec _ _ _ _).mono ?_
  rw [HK1.out]
  rintro e w' ⟨rfl, rfl⟩
  go_wp2_with fail
  refine (ok_spec _ _ _ _).mono ?_
  rw [HK2.out]
  rintro e w' ⟨rfl, rfl⟩
  go_wp2
  exact bodyPost_ret (v := cR 1 0 noS true) (by simp [results, Tryd.results12, go_sem]) rfl ⟨rfl, by repeat (first | exact Below.refl _ _ | refine Below.drew ?_ | refine below_draws _ ?_ | (refine Below.setCell ?_ (by first | (simp; done) | (simp; omega) | omega) _) | (refine Below.alloc ?_ (by first | (simp; done) | (simp; omega) | omega) _) | (refine below_of (by assumption) ?_ (by first | (simp; done) | (simp; omega) | omega)))⟩
set_option maxRecDepth 100000 in
set_option maxHeartbeats 1000000 in
theorem cast_spec_31n (s : ByteArray) (h : okB 3 0 s = true) (g0 : isTrue s = false) (g1 : isFalse s = false) (w : World) : Calls Tryd.prog 12 #[V 3 0 s, .int .i64 1] w fun e w' => e = .returned (cR 0 0 noS false) ∧ Below w.heap.size w w' := by
  have HK1 : Hid (okB 3 0 s = _) := h
  unfold isTrue at g0
  rw [ByteArray.toList_eq tTrue] at g0
  unfold isFalse at g1
  rw [ByteArray.toList_eq tFalse] at g1
  clear h
  go_enter Tryd.func12, Tryd.ntmps12
  go_wp2_with fail
  refine (ok_spec _ _ _ _).mono ?_
  rw [HK1.out]
  rintro e w' ⟨rfl, rfl⟩
  go_wp2
  exact bodyPost_ret (v := cR 0 0 noS false) (by simp [results, Tryd.results12, go_sem]) rfl ⟨rfl, by repeat (first | exact Below.refl _ _ | refine Below.drew ?_ | refine below_draws _ ?_ | (refine Below.setCell ?_ (by first | (simp; done) | (simp; omega) | omega) _) | (refine Below.alloc ?_ (by first | (simp; done) | (simp; omega) | omega) _) | (refine below_of (by assumption) ?_ (by first | (simp; done) | (simp; omega) | omega)))⟩
set_option maxRecDepth 100000 in
set_option maxHeartbeats 1000000 in
theorem cast_spec_32t (s : ByteArray) (hs : s.size ≤ 30) (h : okB 3 0 s = true) (hb : tnB s = true) (h2 : okB 2 (tnV s) noS = true) (w : World) : Calls Tryd.prog 12 #[V 3 0 s, .int .i64 2] w fun e w' => e = .returned (cR 2 (tnV s) noS true) ∧ Below w.heap.size w w' := by
  have HK1 : Hid (okB 3 0 s = _) := h
  have HK2 : Hid (okB 2 (tnV s) noS = _) := h2
  have HS : Hid (∀ w : World, Calls Tryd.prog 24 #[.string s] w fun e w' => e = .returned (.tuple #[.int .i64 (tnV s), .bool (tnB s)]) ∧ Below w.heap.size w w') := fun w => textNum_spec s (by omega) w
  rw [hb] at HS
  clear h hb h2
  generalize tnV s = v at HS HK2
  go_enter Tryd.func12, Tryd.ntmps12
  go_wp2_with fail
  refine (ok_spec _ _ _ _).mono ?_
  rw [HK1.out]
  rintro e w' ⟨rfl, rfl⟩
  go_wp2_with fail
  refine (HS.out _).mono ?_
  rintro e w1 ⟨rfl, hb1⟩
  obtain ⟨hc, hf⟩ := bcell hb1
  have hz : w.heap.size + 1 + 1 + 1 < w1.heap.size := by have := hb1.size; simp at this; omega
  go_upto_region 21 with fail
  refine wp_world (Tail w 2 v noS) ?_ ?_
  · constructor
    case size => simpa using hz
    case below => repeat (first | exact Below.refl _ _ | (refine Below.setCell ?_ (by first | (simp; done) | (simp; omega) | omega) _) | (refine Below.alloc ?_ (by first | (simp; done) | (simp; omega) | omega) _) | (refine below_of (by assumption) ?_ (by first | (simp; done) | (simp; omega) | omega)))
    all_goals simp [hc, hf, go_sem]
  · intro wx ht
    obtain ⟨o0, o1, o2, r0, r1, r2, f0, f1, f2, hzx, hbx⟩ := ht
    have hz1 : w.heap.size + 1 < wx.heap.size := by omega
    clear hc hf hz hb1
    go_wp2_with fail
    refine (ok_spec _ _ _ _).mono ?_
    rw [HK2.out]
    rintro e w' ⟨rfl, rfl⟩
    go_wp2
    exact bodyPost_ret (v := cR 2 v noS true) (by simp [results, Tryd.results12, go_sem, r0, r1, r2, hz1]) rfl ⟨rfl, by repeat (first | exact hbx | exact Below.refl _ _ | (refine Below.setCell ?_ (by first | (simp; done) | (simp; omega) | omega) _) | (refine Below.alloc ?_ (by first | (simp; done) | (simp; omega) | omega) _))⟩
set_option maxRecDepth 100000 in
set_option maxHeartbeats 1000000 in
theorem cast_spec_32f (s : ByteArray) (hs : s.size ≤ 30) (h : okB 3 0 s = true) (hb : tnB s = false) (w : World) : Calls Tryd.prog 12 #[V 3 0 s, .int .i64 2] w fun e w' => e = .returned (cR 0 0 noS false) ∧ Below w.heap.size w w' := by
  have HK1 : Hid (okB 3 0 s = _) := h
  have HS : Hid (∀ w : World, Calls Tryd.prog 24 #[.string s] w fun e w' => e = .returned (.tuple #[.int .i64 (tnV s), .bool (tnB s)]) ∧ Below w.heap.size w w') := fun w => textNum_spec s (by omega) w
  rw [hb] at HS
  clear h hb
  generalize tnV s = v at HS
  go_enter Tryd.func12, Tryd.ntmps12
  go_wp2_with fail
  refine (ok_spec _ _ _ _).mono ?_
  rw [HK1.out]
  rintro e w' ⟨rfl, rfl⟩
  go_wp2_with fail
  refine (HS.out _).mono ?_
  rintro e w1 ⟨rfl, hb1⟩
  obtain ⟨hc, hf⟩ := bcell hb1
  have hz : w.heap.size + 1 + 1 + 1 < w1.heap.size := by have := hb1.size; simp at this; omega
  go_wp2
  exact bodyPost_ret (v := cR 0 0 noS false) (by simp [results, Tryd.results12, go_sem, hc]) rfl ⟨rfl, by repeat (first | exact Below.refl _ _ | refine Below.drew ?_ | refine below_draws _ ?_ | (refine Below.setCell ?_ (by first | (simp; done) | (simp; omega) | omega) _) | (refine Below.alloc ?_ (by first | (simp; done) | (simp; omega) | omega) _) | (refine below_of (by assumption) ?_ (by first | (simp; done) | (simp; omega) | omega)))⟩

theorem ok12 (n : Int) (h : n = 0 ∨ n = 1) : okB 2 n noS = true := by rcases h with rfl | rfl <;> simp [okB, numB, ByteArray.toList_eq]
theorem ok21 (n : Int) (h : n = 0 ∨ n = 1) : okB 1 n noS = true := by rcases h with rfl | rfl <;> simp [okB, ByteArray.toList_eq]
theorem ok21n (n : Int) (h : ¬ (n = 0 ∨ n = 1)) : okB 1 n noS = false := by simp [okB]; omega
theorem ok3L (L : List UInt8) (h : L.length ≤ 30) : okB 3 0 ⟨L.toArray⟩ = true := by
  have : (⟨L.toArray⟩ : ByteArray).size = L.length := by simp [ByteArray.size]
  simp [okB, this, h]
theorem ok3b (b : Bool) : okB 3 0 (bS b) = true := by
  cases b
  · exact ok3L [102, 97, 108, 115, 101] (by decide)
  · exact ok3L [116, 114, 117, 101] (by decide)
theorem ok2t (s : ByteArray) (h : tnB s = true) : okB 2 (tnV s) noS = true := by
  unfold tnB tnV at *
  cases ht : textNum s.data.toList with
  | none => rw [ht] at h; cases h
  | some v =>
    have := ((textNum_some _ v).1 ht).1
    simp [okB, this, ByteArray.toList_eq]

/-- spec.Cast -/
theorem cast_spec (ty n : Int) (s : ByteArray) (tg : Int) (w : World) : Calls Tryd.prog 12 #[V ty n s, .int .i64 tg] w fun e w' => e = .returned (cRF (castF ty n s tg)) ∧ Below w.heap.size w w' := by
  cases h : okB ty n s
  · have e : castF ty n s tg = (0, 0, noS, false) := by rw [castF, if_pos h]
    rw [e]; exact cast_spec_not ty n s tg h w
  have hh : ¬ okB ty n s = false := by rw [h]; simp
  rcases to_cases tg with ht | ht
  · have e : castF ty n s tg = (0, 0, noS, false) := by rw [castF, if_neg hh, if_pos ht]
    rw [e]
    rcases ht with ht | ht
    · exact cast_spec_low ty n s tg h ht w
    · exact cast_spec_high ty n s tg h ht w
  have hto : ¬ (tg < 1 ∨ 3 < tg) := by omega
  rcases ok_cases ty n s h with ⟨rfl, rfl, rfl⟩ | ⟨rfl, hn, rfl⟩ | ⟨rfl, hn, rfl⟩ | ⟨rfl, rfl, hs⟩
  · have e : castF 0 0 noS tg = (0, 0, noS, true) := by rw [castF, if_neg hh, if_neg hto, if_pos rfl]
    rw [e]
    rcases ht with rfl | rfl | rfl
    · exact cast_spec_null1 w
    · exact cast_spec_null2 w
    · exact cast_spec_null3 w
  · rcases ht with rfl | rfl | rfl
    · have e : castF 1 n noS 1 = (1, n, noS, true) := by simp [castF, h]
      rw [e]; exact cast_spec_same1 n noS h w
    · have e : castF 1 n noS 2 = (2, n, noS, true) := by simp [castF, h]
      rw [e]; exact cast_spec_12 n h (ok12 n hn) w
    · have e : castF 1 n noS 3 = (3, 0, bS (n == 1), true) := by simp [castF, h]
      rw [e]; exact cast_spec_13 n (numText n) h (ok3b _) (fun w => numText_spec n w) w
  · rcases ht with rfl | rfl | rfl
    · by_cases h01 : n = 0 ∨ n = 1
      · have e : castF 2 n noS 1 = (1, n, noS, true) := by simp [castF, h, h01]
        rw [e]; exact cast_spec_21t n h (ok21 n h01) w
      · have e : castF 2 n noS 1 = (0, 0, noS, false) := by simp [castF, h, h01]
        rw [e]; exact cast_spec_21f n h (ok21n n h01) w
    · have e : castF 2 n noS 2 = (2, n, noS, true) := by simp [castF, h]
      rw [e]; exact cast_spec_same2 n noS h w
    · have e : castF 2 n noS 3 = (3, 0, ⟨(numText n).toArray⟩, true) := by simp [castF, h]
      rw [e]; exact cast_spec_23 n ⟨(numText n).toArray⟩ h (ok3L _ (Nat.le_trans (numText_len n) (by omega))) (fun w => numText_spec n w) w
  · rcases ht with rfl | rfl | rfl
    · cases h1 : isTrue s
      · cases h2 : isFalse s
        · have e : castF 3 0 s 1 = (0, 0, noS, false) := by simp [castF, h, h1, h2]
          rw [e]; exact cast_spec_31n s h h1 h2 w
        · have e : castF 3 0 s 1 = (1, 0, noS, true) := by simp [castF, h, h1, h2]
          rw [e]; exact cast_spec_31f s h h1 h2 w
      · have e : castF 3 0 s 1 = (1, 1, noS, true) := by simp [castF, h, h1]
        rw [e]; exact cast_spec_31t s h h1 w
    · cases hb : tnB s
      · have e : castF 3 0 s 2 = (0, 0, noS, false) := by simp [castF, h, hb]
        rw [e]; exact cast_spec_32f s hs h hb w
      · have e : castF 3 0 s 2 = (2, tnV s, noS, true) := by simp [castF, h, hb]
        rw [e]; exact cast_spec_32t s hs h hb (ok2t s hb) w
    · have e : castF 3 0 s 3 = (3, 0, s, true) := by simp [castF, h]
      rw [e]; exact cast_spec_same3 0 s h w
end Go.Proofs.YtmgoplamocgfladDoor
