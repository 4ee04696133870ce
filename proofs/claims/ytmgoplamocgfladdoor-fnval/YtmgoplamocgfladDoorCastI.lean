/- The landed Cast: its contract. -/
import Derived.Test.YtmgoplamocgfladDoorMeths
namespace Go.Proofs.YtmgoplamocgfladDoor
open Go.ChangeShapes Go.WideShapes Go.ChangeAt Go.RowKit

/-- A contract that wants the library's variables. -/
def Does (f : FuncId) (args : Array Value) (r : Value) : Prop := ∀ w : World, Tab w → Errs w → Calls Tryd.prog f args w fun e w' => e = .returned r ∧ Below w.heap.size w w'
abbrev pr (x : Value) (b : Bool) : Value := .tuple #[x, .bool b]

set_option maxRecDepth 100000 in
theorem castValue_1 (v : Value) (x : Value) (b : Bool) (H : Does 31 #[v] (pr x b)) : Does 18 #[v, .int .i64 1] (pr x b) := by
  intro w hT hE
  have HT : Hid (Tab w) := hT
  have HE : Hid (Errs w) := hE
  clear hT hE
  go_enter Tryd.func18, Tryd.ntmps18
  go_wp2_with fail
  refine (H _ HT.out HE.out).mono ?_
  rintro e w1 ⟨rfl, hb⟩
  go_wp2
  go_ret2
  exact ⟨rfl, hb⟩
set_option maxRecDepth 100000 in
theorem castValue_2 (v : Value) (x : Value) (b : Bool) (H : Does 32 #[v] (pr x b)) : Does 18 #[v, .int .i64 2] (pr x b) := by
  intro w hT hE
  have HT : Hid (Tab w) := hT
  have HE : Hid (Errs w) := hE
  clear hT hE
  go_enter Tryd.func18, Tryd.ntmps18
  go_wp2_with fail
  refine (H _ HT.out HE.out).mono ?_
  rintro e w1 ⟨rfl, hb⟩
  go_wp2
  go_ret2
  exact ⟨rfl, hb⟩
set_option maxRecDepth 100000 in
theorem castValue_3 (v : Value) (x : Value) (b : Bool) (H : Does 33 #[v] (pr x b)) : Does 18 #[v, .int .i64 3] (pr x b) := by
  intro w hT hE
  have HT : Hid (Tab w) := hT
  have HE : Hid (Errs w) := hE
  clear hT hE
  go_enter Tryd.func18, Tryd.ntmps18
  go_wp2_with fail
  refine (H _ HT.out HE.out).mono ?_
  rintro e w1 ⟨rfl, hb⟩
  go_wp2
  go_ret2
  exact ⟨rfl, hb⟩
set_option maxRecDepth 100000 in
theorem castValue_no (v : Value) (tg : Int) (h1 : (tg == 1) = false) (h2 : (tg == 2) = false) (h3 : (tg == 3) = false) : Does 18 #[v, .int .i64 tg] (pr iNull false) := by
  intro w _ _
  go_enter Tryd.func18, Tryd.ntmps18
  go_wp2
  go_ret2
  exact ⟨rfl, below0 _⟩

/-- What Cast answers: a value and true, or nothing and false. -/
abbrev cR (ty n : Int) (s : ByteArray) (b : Bool) : Value := .tuple #[V ty n s, .bool b]

set_option maxRecDepth 100000 in
set_option maxHeartbeats 400000 in
theorem cast_impl_not (ty n : Int) (s : ByteArray) (tg : Int) (h : okB ty n s = false) : Does 9 #[V ty n s, .int .i64 tg] (cR 0 0 noS false) := by
  intro w _ _
  have HK : Hid (okB ty n s = _) := h
  clear h
  go_enter Tryd.func9, Tryd.ntmps9
  go_wp2_with fail
  refine (within_any _ _ _ _).mono ?_
  rw [HK.out]
  rintro e w1 ⟨rfl, k, rfl⟩
  go_wp2
  exact bodyPost_ret (v := cR 0 0 noS false) (by simp [results, Tryd.results9, go_sem]) rfl ⟨rfl, by repeat (first | exact Below.refl _ _ | refine Below.drew ?_ | refine below_draws _ ?_ | (refine Below.setCell ?_ (by first | (simp; done) | (simp; omega) | omega) _) | (refine Below.alloc ?_ (by first | (simp; done) | (simp; omega) | omega) _) | (refine below_of (by assumption) ?_ (by first | (simp; done) | (simp; omega) | omega)))⟩

set_option maxRecDepth 100000 in
set_option maxHeartbeats 400000 in
theorem cast_impl_fails (ty n : Int) (s : ByteArray) (tg : Int) (x : Value) (h : okB ty n s = true) (H : Does 18 #[inner ty n s, .int .i64 tg] (pr x false)) : Does 9 #[V ty n s, .int .i64 tg] (cR 0 0 noS false) := by
  intro w hT hE
  have HT : Hid (Tab w) := hT
  have HE : Hid (Errs w) := hE
  have HK : Hid (okB ty n s = _) := h
  clear h hT hE
  go_enter Tryd.func9, Tryd.ntmps9
  go_wp2_with fail
  refine (within_any _ _ _ _).mono ?_
  rw [HK.out]
  rintro e w1 ⟨rfl, k, rfl⟩
  go_wp2_with fail
  refine (H _ (HT.out.on (by repeat (first | exact Below.refl _ _ | refine Below.drew ?_ | refine below_draws _ ?_ | (refine Below.setCell ?_ (by first | (simp; done) | (simp; omega) | omega) _) | (refine Below.alloc ?_ (by first | (simp; done) | (simp; omega) | omega) _) | (refine below_of (by assumption) ?_ (by first | (simp; done) | (simp; omega) | omega))))) (HE.out.on (by repeat (first | exact Below.refl _ _ | refine Below.drew ?_ | refine below_draws _ ?_ | (refine Below.setCell ?_ (by first | (simp; done) | (simp; omega) | omega) _) | (refine Below.alloc ?_ (by first | (simp; done) | (simp; omega) | omega) _) | (refine below_of (by assumption) ?_ (by first | (simp; done) | (simp; omega) | omega)))))).mono ?_
  rintro e w2 ⟨rfl, hb2⟩
  obtain ⟨hc, hf⟩ := bcell hb2
  have hz : w.heap.size + 1 < w2.heap.size := by have := hb2.size; simp at this; omega
  go_wp2
  exact bodyPost_ret (v := cR 0 0 noS false) (by simp [results, Tryd.results9, go_sem, hc]) rfl ⟨rfl, by repeat (first | exact Below.refl _ _ | refine Below.drew ?_ | refine below_draws _ ?_ | (refine Below.setCell ?_ (by first | (simp; done) | (simp; omega) | omega) _) | (refine Below.alloc ?_ (by first | (simp; done) | (simp; omega) | omega) _) | (refine below_of (by assumption) ?_ (by first | (simp; done) | (simp; omega) | omega)))⟩

set_option maxRecDepth 100000 in
set_option maxHeartbeats 400000 in
theorem cast_impl_null (ty n : Int) (s : ByteArray) (tg : Int) (h : okB ty n s = true) (H : Does 18 #[inner ty n s, .int .i64 tg] (pr iNull true)) : Does 9 #[V ty n s, .int .i64 tg] (cR 0 0 noS true) := by
  intro w hT hE
  have HT : Hid (Tab w) := hT
  have HE : Hid (Errs w) := hE
  have HK : Hid (okB ty n s = _) := h
  have f5 := mv_null
  clear h hT hE
  go_enter Tryd.func9, Tryd.ntmps9
  go_wp2_with fail
  refine (within_any _ _ _ _).mono ?_
  rw [HK.out]
  rintro e w1 ⟨rfl, k, rfl⟩
  go_wp2_with fail
  refine (H _ (HT.out.on (by repeat (first | exact Below.refl _ _ | refine Below.drew ?_ | refine below_draws _ ?_ | (refine Below.setCell ?_ (by first | (simp; done) | (simp; omega) | omega) _) | (refine Below.alloc ?_ (by first | (simp; done) | (simp; omega) | omega) _) | (refine below_of (by assumption) ?_ (by first | (simp; done) | (simp; omega) | omega))))) (HE.out.on (by repeat (first | exact Below.refl _ _ | refine Below.drew ?_ | refine below_draws _ ?_ | (refine Below.setCell ?_ (by first | (simp; done) | (simp; omega) | omega) _) | (refine Below.alloc ?_ (by first | (simp; done) | (simp; omega) | omega) _) | (refine below_of (by assumption) ?_ (by first | (simp; done) | (simp; omega) | omega)))))).mono ?_
  rintro e w2 ⟨rfl, hb2⟩
  go_wp2_with (go_at_call 89; refine (val_null _).mono ?_; rintro e w3 ⟨rfl, hb3⟩; have hb4 := hb2.trans (hb3.mono hb2.size); obtain ⟨hc, hf⟩ := bcell hb4; have hz : w.heap.size + 1 < w3.heap.size := by have := hb4.size; simp at this; omega)
  exact bodyPost_ret (v := cR 0 0 noS true) (by simp [results, Tryd.results9, go_sem, hc]) rfl ⟨rfl, by repeat (first | exact Below.refl _ _ | refine Below.drew ?_ | refine below_draws _ ?_ | (refine Below.setCell ?_ (by first | (simp; done) | (simp; omega) | omega) _) | (refine Below.alloc ?_ (by first | (simp; done) | (simp; omega) | omega) _) | (refine below_of (by assumption) ?_ (by first | (simp; done) | (simp; omega) | omega)))⟩

set_option maxRecDepth 100000 in
set_option maxHeartbeats 400000 in
theorem cast_impl_bool (ty n : Int) (s : ByteArray) (tg : Int) (b : Bool) (h : okB ty n s = true) (H : Does 18 #[inner ty n s, .int .i64 tg] (pr (iBool b) true)) : Does 9 #[V ty n s, .int .i64 tg] (cR 1 (bN b) noS true) := by
  intro w hT hE
  have HT : Hid (Tab w) := hT
  have HE : Hid (Errs w) := hE
  have HK : Hid (okB ty n s = _) := h
  have f5 := mv_bool b
  clear h hT hE
  go_enter Tryd.func9, Tryd.ntmps9
  go_wp2_with fail
  refine (within_any _ _ _ _).mono ?_
  rw [HK.out]
  rintro e w1 ⟨rfl, k, rfl⟩
  go_wp2_with fail
  refine (H _ (HT.out.on (by repeat (first | exact Below.refl _ _ | refine Below.drew ?_ | refine below_draws _ ?_ | (refine Below.setCell ?_ (by first | (simp; done) | (simp; omega) | omega) _) | (refine Below.alloc ?_ (by first | (simp; done) | (simp; omega) | omega) _) | (refine below_of (by assumption) ?_ (by first | (simp; done) | (simp; omega) | omega))))) (HE.out.on (by repeat (first | exact Below.refl _ _ | refine Below.drew ?_ | refine below_draws _ ?_ | (refine Below.setCell ?_ (by first | (simp; done) | (simp; omega) | omega) _) | (refine Below.alloc ?_ (by first | (simp; done) | (simp; omega) | omega) _) | (refine below_of (by assumption) ?_ (by first | (simp; done) | (simp; omega) | omega)))))).mono ?_
  rintro e w2 ⟨rfl, hb2⟩
  go_wp2_with (go_at_call 41; refine (val_bool _ _).mono ?_; rintro e w3 ⟨rfl, hb3⟩; have hb4 := hb2.trans (hb3.mono hb2.size); obtain ⟨hc, hf⟩ := bcell hb4; have hz : w.heap.size + 1 < w3.heap.size := by have := hb4.size; simp at this; omega)
  exact bodyPost_ret (v := cR 1 (bN b) noS true) (by simp [results, Tryd.results9, go_sem, hc]) rfl ⟨rfl, by repeat (first | exact Below.refl _ _ | refine Below.drew ?_ | refine below_draws _ ?_ | (refine Below.setCell ?_ (by first | (simp; done) | (simp; omega) | omega) _) | (refine Below.alloc ?_ (by first | (simp; done) | (simp; omega) | omega) _) | (refine below_of (by assumption) ?_ (by first | (simp; done) | (simp; omega) | omega)))⟩

set_option maxRecDepth 100000 in
set_option maxHeartbeats 400000 in
theorem cast_impl_int (ty n : Int) (s : ByteArray) (tg : Int) (m : Int) (h : okB ty n s = true) (H : Does 18 #[inner ty n s, .int .i64 tg] (pr (iInt m) true)) : Does 9 #[V ty n s, .int .i64 tg] (cR 2 m noS true) := by
  intro w hT hE
  have HT : Hid (Tab w) := hT
  have HE : Hid (Errs w) := hE
  have HK : Hid (okB ty n s = _) := h
  have f5 := mv_int m
  clear h hT hE
  go_enter Tryd.func9, Tryd.ntmps9
  go_wp2_with fail
  refine (within_any _ _ _ _).mono ?_
  rw [HK.out]
  rintro e w1 ⟨rfl, k, rfl⟩
  go_wp2_with fail
  refine (H _ (HT.out.on (by repeat (first | exact Below.refl _ _ | refine Below.drew ?_ | refine below_draws _ ?_ | (refine Below.setCell ?_ (by first | (simp; done) | (simp; omega) | omega) _) | (refine Below.alloc ?_ (by first | (simp; done) | (simp; omega) | omega) _) | (refine below_of (by assumption) ?_ (by first | (simp; done) | (simp; omega) | omega))))) (HE.out.on (by repeat (first | exact Below.refl _ _ | refine Below.drew ?_ | refine below_draws _ ?_ | (refine Below.setCell ?_ (by first | (simp; done) | (simp; omega) | omega) _) | (refine Below.alloc ?_ (by first | (simp; done) | (simp; omega) | omega) _) | (refine below_of (by assumption) ?_ (by first | (simp; done) | (simp; omega) | omega)))))).mono ?_
  rintro e w2 ⟨rfl, hb2⟩
  go_wp2_with (go_at_call 92; refine (val_int _ _).mono ?_; rintro e w3 ⟨rfl, hb3⟩; have hb4 := hb2.trans (hb3.mono hb2.size); obtain ⟨hc, hf⟩ := bcell hb4; have hz : w.heap.size + 1 < w3.heap.size := by have := hb4.size; simp at this; omega)
  exact bodyPost_ret (v := cR 2 m noS true) (by simp [results, Tryd.results9, go_sem, hc]) rfl ⟨rfl, by repeat (first | exact Below.refl _ _ | refine Below.drew ?_ | refine below_draws _ ?_ | (refine Below.setCell ?_ (by first | (simp; done) | (simp; omega) | omega) _) | (refine Below.alloc ?_ (by first | (simp; done) | (simp; omega) | omega) _) | (refine below_of (by assumption) ?_ (by first | (simp; done) | (simp; omega) | omega)))⟩

set_option maxRecDepth 100000 in
set_option maxHeartbeats 400000 in
theorem cast_impl_text (ty n : Int) (s : ByteArray) (tg : Int) (x : ByteArray) (h : okB ty n s = true) (H : Does 18 #[inner ty n s, .int .i64 tg] (pr (iText x) true)) : Does 9 #[V ty n s, .int .i64 tg] (cR 3 0 x true) := by
  intro w hT hE
  have HT : Hid (Tab w) := hT
  have HE : Hid (Errs w) := hE
  have HK : Hid (okB ty n s = _) := h
  have f5 := mv_text x
  clear h hT hE
  go_enter Tryd.func9, Tryd.ntmps9
  go_wp2_with fail
  refine (within_any _ _ _ _).mono ?_
  rw [HK.out]
  rintro e w1 ⟨rfl, k, rfl⟩
  go_wp2_with fail
  refine (H _ (HT.out.on (by repeat (first | exact Below.refl _ _ | refine Below.drew ?_ | refine below_draws _ ?_ | (refine Below.setCell ?_ (by first | (simp; done) | (simp; omega) | omega) _) | (refine Below.alloc ?_ (by first | (simp; done) | (simp; omega) | omega) _) | (refine below_of (by assumption) ?_ (by first | (simp; done) | (simp; omega) | omega))))) (HE.out.on (by repeat (first | exact Below.refl _ _ | refine Below.drew ?_ | refine below_draws _ ?_ | (refine Below.setCell ?_ (by first | (simp; done) | (simp; omega) | omega) _) | (refine Below.alloc ?_ (by first | (simp; done) | (simp; omega) | omega) _) | (refine below_of (by assumption) ?_ (by first | (simp; done) | (simp; omega) | omega)))))).mono ?_
  rintro e w2 ⟨rfl, hb2⟩
  go_wp2_with (go_at_call 94; refine (val_text _ _).mono ?_; rintro e w3 ⟨rfl, hb3⟩; have hb4 := hb2.trans (hb3.mono hb2.size); obtain ⟨hc, hf⟩ := bcell hb4; have hz : w.heap.size + 1 < w3.heap.size := by have := hb4.size; simp at this; omega)
  exact bodyPost_ret (v := cR 3 0 x true) (by simp [results, Tryd.results9, go_sem, hc]) rfl ⟨rfl, by repeat (first | exact Below.refl _ _ | refine Below.drew ?_ | refine below_draws _ ?_ | (refine Below.setCell ?_ (by first | (simp; done) | (simp; omega) | omega) _) | (refine Below.alloc ?_ (by first | (simp; done) | (simp; omega) | omega) _) | (refine below_of (by assumption) ?_ (by first | (simp; done) | (simp; omega) | omega)))⟩
end Go.Proofs.YtmgoplamocgfladDoor
