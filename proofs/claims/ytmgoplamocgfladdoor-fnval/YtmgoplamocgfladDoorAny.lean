/- A value that is drawn. -/
import Derived.Test.YtmgoplamocgfladDoorStr
namespace Go.Proofs.YtmgoplamocgfladDoor
open Go.ChangeShapes Go.WideShapes Go.ChangeAt Go.RowKit

theorem Keep.set {P : Nat} {a w : World} (h : Keep P a w) {Q : Nat} (hQ : a.heap.size ≤ Q) (o : Nat) (v : Value) : Keep P a (w.setCell ⟨Q, o, none⟩ v) :=
  ⟨h.os, h.tape, h.output, by simpa using h.size, fun k hk hn => (Below.heap_setCell w ⟨Q, o, none⟩ v k (by show k ≠ Q; omega)).trans (h.block k hk hn)⟩
theorem Cur.setOther {B P : Nat} {a : Option Addr} {len cap : Nat} {w : World} (h : Cur B P a len cap w) {Q : Nat} (hQ : P < Q) (o : Nat) (v : Value) : Cur B P a len cap (w.setCell ⟨Q, o, none⟩ v) :=
  h.on (Below.setCell (Below.refl _ _) hQ _)
theorem cell_other (w : World) (Q R o j : Nat) (v : Value) (h : Q ≠ R) : (w.setCell ⟨R, o, none⟩ v).cell? ⟨Q, j, none⟩ = w.cell? ⟨Q, j, none⟩ :=
  World.cell?_of_block (a := ⟨Q, j, none⟩) (w := w) (Below.heap_setCell w ⟨R, o, none⟩ v Q h)
/-- What a call leaves in a block that isn't the cursor's. -/
theorem Keep.cells {P : Nat} {w w' : World} (h : Keep P w w') (Q : Nat) (hQ : Q < w.heap.size) (hn : Q ≠ P) : (∀ o, w'.cell? ⟨Q, o, none⟩ = w.cell? ⟨Q, o, none⟩) ∧ (∀ o, w'.frozen? ⟨Q, o, none⟩ = w.frozen? ⟨Q, o, none⟩) ∧ Q < w'.heap.size :=
  ⟨fun o => World.cell?_of_block (a := ⟨Q, o, none⟩) (w := w) (h.block Q hQ hn), fun o => World.frozen?_of_block (a := ⟨Q, o, none⟩) (w := w) (h.block Q hQ hn), Nat.lt_of_lt_of_le hQ h.size⟩
theorem Keep.mk1 {P : Nat} {a w : World} (o : Obj) (h : Keep P (a.alloc o) w) : Keep P a w := ((Keep.refl P a).alloc o).trans h

/-- A value that was drawn, and the world behind it. -/
def DrawnV (B P : Nat) (a : Option Addr) (len cap : Nat) (w : World) (e : Ending) (w' : World) : Prop :=
  ∃ ty n s, e = .returned (V ty n s) ∧ I64 ty ∧ I64 n ∧ s.size ≤ 31 ∧ Cur B P a len cap w' ∧ Keep P w w'

set_option maxRecDepth 100000 in
set_option maxHeartbeats 1000000 in
/-- spec.l01Of -/
theorem of_any (B P : Nat) (a : Option Addr) (len cap : Nat) (ty : Int) (w : World) (hty : I64 ty) (hC : Cur B P a len cap w) :
    Calls Tryd.prog 35 #[.pointer (some ⟨P, 0, none⟩), .int .i64 ty] w (DrawnV B P a len cap w) := by
  have HC : Hid (Cur B P a len cap w) := hC
  have HT : Hid (I64 ty) := hty
  clear hC hty
  go_enter Tryd.func35, Tryd.ntmps35
  go_wp2_with fail
  have hP := HC.out.here
  refine (below_pos 8 (by omega) (by omega) B P a len cap _ (HC.out.alloc _)).mono ?_
  rintro e w1 ⟨x, rfl, x0, x1, hc1, ho1⟩
  have HC1 : Hid (Cur B P a len cap w1) := hc1
  have HK1 : Hid (Keep P w w1) := ho1.keep.mk1 _
  obtain ⟨hd1, hf1, hz1⟩ := ho1.keep.cells w.heap.size (by simp) (by omega)
  clear hc1 ho1
  by_cases e0 : x = 0
  · subst e0
    go_wp2
    exact bodyPost_ret (v := V 0 0 noS) (by simp [results, Tryd.results35, go_sem, hd1]) rfl ⟨0, 0, noS, rfl, ⟨by omega, by omega⟩, ⟨by omega, by omega⟩, by decide, by repeat (first | exact HC1.out | refine Cur.setOther ?_ (by omega) _ _ | refine Cur.draws ?_ _ | refine Cur.drew ?_ | refine Cur.alloc ?_ _), by repeat (first | exact HK1.out | refine Keep.set ?_ (by omega) _ _ | refine Keep.draws _ ?_ | refine Keep.drew ?_ | refine Keep.alloc ?_ _)⟩
  have e0' : (x == 0) = false := by simp [e0]
  clear e0 x0 x1
  by_cases t1 : ty = 1
  · subst t1
    go_wp2_with fail
    refine (below_pos 2 (by omega) (by omega) B P a len cap _ HC1.out).mono ?_
    rintro e w2 ⟨y, rfl, y0, y1, hc2, ho2⟩
    have HC2 : Hid (Cur B P a len cap w2) := hc2
    have HK2 : Hid (Keep P w w2) := HK1.out.trans ho2.keep
    obtain ⟨hd2, hf2, hz2⟩ := ho2.keep.cells w.heap.size hz1 (by omega)
    clear hc2 ho2
    go_wp2
    exact bodyPost_ret (v := V 1 y noS) (by simp [results, Tryd.results35, go_sem, hd1, hd2]) rfl ⟨1, y, noS, rfl, HT.out, ⟨by omega, by omega⟩, by decide, by repeat (first | exact HC2.out | refine Cur.setOther ?_ (by omega) _ _ | refine Cur.draws ?_ _ | refine Cur.drew ?_ | refine Cur.alloc ?_ _), by repeat (first | exact HK2.out | refine Keep.set ?_ (by omega) _ _ | refine Keep.draws _ ?_ | refine Keep.drew ?_ | refine Keep.alloc ?_ _)⟩
  by_cases t2 : ty = 2
  · subst t2
    go_wp2_with fail
    refine (below_pos 12 (by omega) (by omega) B P a len cap _ HC1.out).mono ?_
    rintro e w2 ⟨y, rfl, y0, y1, hc2, ho2⟩
    have HC2 : Hid (Cur B P a len cap w2) := hc2
    have HK2 : Hid (Keep P w w2) := HK1.out.trans ho2.keep
    obtain ⟨hd2, hf2, hz2⟩ := ho2.keep.cells w.heap.size hz1 (by omega)
    clear hc2 ho2
    go_wp2
    exact bodyPost_ret (v := V 2 (y - 2) noS) (by simp [results, Tryd.results35, go_sem, hd1, hd2]) rfl ⟨2, y - 2, noS, rfl, HT.out, ⟨by omega, by omega⟩, by decide, by repeat (first | exact HC2.out | refine Cur.setOther ?_ (by omega) _ _ | refine Cur.draws ?_ _ | refine Cur.drew ?_ | refine Cur.alloc ?_ _), by repeat (first | exact HK2.out | refine Keep.set ?_ (by omega) _ _ | refine Keep.draws _ ?_ | refine Keep.drew ?_ | refine Keep.alloc ?_ _)⟩
  by_cases t3 : ty = 3
  · subst t3
    go_wp2_with fail
    refine (str_any B P a len cap _ HC1.out).mono ?_
    rintro e w2 ⟨s, rfl, hs, hc2, hk2⟩
    have HC2 : Hid (Cur B P a len cap w2) := hc2
    have HK2 : Hid (Keep P w w2) := HK1.out.trans hk2
    obtain ⟨hd2, hf2, hz2⟩ := hk2.cells w.heap.size hz1 (by omega)
    clear hc2 hk2
    go_wp2
    exact bodyPost_ret (v := V 3 0 s) (by simp [results, Tryd.results35, go_sem, hd1, hd2]) rfl ⟨3, 0, s, rfl, HT.out, ⟨by omega, by omega⟩, by omega, by repeat (first | exact HC2.out | refine Cur.setOther ?_ (by omega) _ _ | refine Cur.draws ?_ _ | refine Cur.drew ?_ | refine Cur.alloc ?_ _), by repeat (first | exact HK2.out | refine Keep.set ?_ (by omega) _ _ | refine Keep.draws _ ?_ | refine Keep.drew ?_ | refine Keep.alloc ?_ _)⟩
  · have t1' : (ty == 1) = false := by simp [t1]
    have t2' : (ty == 2) = false := by simp [t2]
    have t3' : (ty == 3) = false := by simp [t3]
    clear t1 t2 t3
    go_wp2
    exact bodyPost_ret (v := V 0 0 noS) (by simp [results, Tryd.results35, go_sem, hd1]) rfl ⟨0, 0, noS, rfl, ⟨by omega, by omega⟩, ⟨by omega, by omega⟩, by decide, by repeat (first | exact HC1.out | refine Cur.setOther ?_ (by omega) _ _ | refine Cur.draws ?_ _ | refine Cur.drew ?_ | refine Cur.alloc ?_ _), by repeat (first | exact HK1.out | refine Keep.set ?_ (by omega) _ _ | refine Keep.draws _ ?_ | refine Keep.drew ?_ | refine Keep.alloc ?_ _)⟩

set_option maxRecDepth 100000 in
set_option maxHeartbeats 1000000 in
/-- spec.l01Val -/
theorem val_any (B P : Nat) (a : Option Addr) (len cap : Nat) (w : World) (hC : Cur B P a len cap w) :
    Calls Tryd.prog 25 #[.pointer (some ⟨P, 0, none⟩)] w (DrawnV B P a len cap w) := by
  have HC : Hid (Cur B P a len cap w) := hC
  clear hC
  go_enter Tryd.func25, Tryd.ntmps25
  go_wp2_with fail
  have hP := HC.out.here
  refine (below_pos 4 (by omega) (by omega) B P a len cap _ (HC.out.alloc _)).mono ?_
  rintro e w1 ⟨x, rfl, x0, x1, hc1, ho1⟩
  have HC1 : Hid (Cur B P a len cap w1) := hc1
  have HK1 : Hid (Keep P w w1) := ho1.keep.mk1 _
  obtain ⟨hd1, hf1, hz1⟩ := ho1.keep.cells w.heap.size (by simp) (by omega)
  clear hc1 ho1
  go_wp2_with fail
  refine (of_any B P a len cap x _ ⟨by omega, by omega⟩ HC1.out).mono ?_
  rintro e w2 ⟨ty, n, s, rfl, ht, hn, hs, hc2, hk2⟩
  have HR : Hid (I64 ty ∧ I64 n) := ⟨ht, hn⟩
  have HC2 : Hid (Cur B P a len cap w2) := hc2
  have HK2 : Hid (Keep P w w2) := HK1.out.trans hk2
  obtain ⟨hd2, hf2, hz2⟩ := hk2.cells w.heap.size hz1 (by omega)
  clear hc2 hk2 ht hn
  go_wp2
  exact bodyPost_ret (v := V ty n s) (by simp [results, Tryd.results25, go_sem, hd1, hd2]) rfl ⟨ty, n, s, rfl, HR.out.1, HR.out.2, hs, by repeat (first | exact HC2.out | refine Cur.setOther ?_ (by omega) _ _ | refine Cur.draws ?_ _ | refine Cur.drew ?_ | refine Cur.alloc ?_ _), by repeat (first | exact HK2.out | refine Keep.set ?_ (by omega) _ _ | refine Keep.draws _ ?_ | refine Keep.drew ?_ | refine Keep.alloc ?_ _)⟩

abbrev zeros (n : Nat) : List UInt8 := List.replicate n 0
abbrev zeroS (n : Nat) : ByteArray := ⟨(zeros n).toArray⟩
theorem mk_zero30 (w : World) : (Instr.makeSlice 22 (.int .i64 30) (.int .i64 30)).run Tryd.prog w = .ok (.slice (some ⟨w.heap.size, 0, none⟩) (zeros 30).length (zeros 30).length) (w.alloc (.cells (Lib.byteCells (zeros 30)).toArray 5)) := by kernel_rfl
theorem mk_zero31 (w : World) : (Instr.makeSlice 22 (.int .i64 31) (.int .i64 31)).run Tryd.prog w = .ok (.slice (some ⟨w.heap.size, 0, none⟩) (zeros 31).length (zeros 31).length) (w.alloc (.cells (Lib.byteCells (zeros 31)).toArray 5)) := by kernel_rfl
theorem own_zero (w : World) (n : Nat) (hn : n ≤ 1000) : Own w.heap.size (w.alloc (.cells (Lib.byteCells (zeros n)).toArray 5)) (.slice (some ⟨w.heap.size, 0, none⟩) (zeros n).length (zeros n).length) (zeros n) :=
  ⟨by simp [Lib.byteCells], Or.inr ⟨w.heap.size, (zeros n).length, (Lib.byteCells (zeros n)).toArray, rfl, Nat.le_refl _, heap_alloc_new _ _, Nat.le_refl _, by unfold maxLen; simp; omega, by simp [Lib.byteCells], by simp [Lib.byteCells]⟩⟩
theorem mk_some30 (w : World) : ∃ (w' : World) (z : ByteArray), (Instr.makeSlice 22 (.int .i64 30) (.int .i64 30)).run Tryd.prog w = .ok (.slice (some ⟨w.heap.size, 0, none⟩) 30 30) w' ∧ (convert 22 9 (.slice (some ⟨w.heap.size, 0, none⟩) 30 30)).run Tryd.prog w' = .ok (.string z) w' ∧ z.size ≤ 31 ∧ Below w.heap.size w w' :=
  ⟨_, zeroS 30, mk_zero30 w, own_text (own_zero w 30 (by omega)), by decide, Below.alloc (Below.refl _ _) (Nat.le_refl _) _⟩
theorem mk_some31 (w : World) : ∃ (w' : World) (z : ByteArray), (Instr.makeSlice 22 (.int .i64 31) (.int .i64 31)).run Tryd.prog w = .ok (.slice (some ⟨w.heap.size, 0, none⟩) 31 31) w' ∧ (convert 22 9 (.slice (some ⟨w.heap.size, 0, none⟩) 31 31)).run Tryd.prog w' = .ok (.string z) w' ∧ z.size ≤ 31 ∧ Below w.heap.size w w' :=
  ⟨_, zeroS 31, mk_zero31 w, own_text (own_zero w 31 (by omega)), by decide, Below.alloc (Below.refl _ _) (Nat.le_refl _) _⟩

set_option maxRecDepth 100000 in
set_option maxHeartbeats 1000000 in
/-- spec.l01Any -/
theorem any_any (B P : Nat) (a : Option Addr) (len cap : Nat) (w : World) (hC : Cur B P a len cap w) :
    Calls Tryd.prog 14 #[.pointer (some ⟨P, 0, none⟩)] w (DrawnV B P a len cap w) := by
  have HC : Hid (Cur B P a len cap w) := hC
  clear hC
  go_enter Tryd.func14, Tryd.ntmps14
  go_wp2_with fail
  have hP := HC.out.here
  refine (val_any B P a len cap _ (HC.out.alloc _)).mono ?_
  rintro e w1 ⟨ty, n, s, rfl, ht, hn, hs, hc1, hk1⟩
  have HR : Hid (I64 ty ∧ I64 n) := ⟨ht, hn⟩
  have HC1 : Hid (Cur B P a len cap w1) := hc1
  have HK1 : Hid (Keep P w w1) := hk1.mk1 _
  obtain ⟨hd1, hf1, hz1⟩ := hk1.cells w.heap.size (by simp) (by omega)
  clear hc1 hk1 ht hn
  have hP1 := HC1.out.here
  go_wp2_with fail
  refine (below_pos 12 (by omega) (by omega) B P a len cap _ (HC1.out.alloc _)).mono ?_
  rintro e w2 ⟨x, rfl, x0, x1, hc2, ho2⟩
  have HC2 : Hid (Cur B P a len cap w2) := hc2
  have HK2 : Hid (Keep P w w2) := HK1.out.trans (ho2.keep.mk1 _)
  obtain ⟨hd2, hf2, hz2⟩ := ho2.keep.cells w.heap.size (by simp; omega) (by omega)
  obtain ⟨hr2, hg2, hy2⟩ := ho2.keep.cells w1.heap.size (by simp) (by omega)
  clear hc2 ho2
  have hne : (w.heap.size == w1.heap.size) = false := by rw [beq_eq_false_iff_ne]; omega
  by_cases e0 : x = 0
  · subst e0
    go_wp2_with fail
    refine (raw_any B P a len cap _ HC2.out).mono ?_
    rintro e w3 ⟨y, rfl, hy, hc3, ho3⟩
    have HY : Hid (I64 y) := hy
    have HC3 : Hid (Cur B P a len cap w3) := hc3
    have HK3 : Hid (Keep P w w3) := HK2.out.trans ho3.keep
    obtain ⟨hd3, hf3, hz3⟩ := ho3.keep.cells w.heap.size hz2 (by omega)
    obtain ⟨hr3, hg3, hy3⟩ := ho3.keep.cells w1.heap.size hy2 (by omega)
    clear hc3 ho3 hy
    go_wp2
    exact bodyPost_ret (v := V y n s) (by simp [results, Tryd.results14, go_sem, hz1, hd1, hd2, cell_other _ w.heap.size w1.heap.size _ _ _ (Nat.ne_of_lt hz1), hd3]) rfl ⟨y, n, s, rfl, HY.out, HR.out.2, hs, by repeat (first | exact HC3.out | refine Cur.setOther ?_ (by omega) _ _ | refine Cur.draws ?_ _ | refine Cur.drew ?_ | refine Cur.alloc ?_ _), by repeat (first | exact HK3.out | refine Keep.set ?_ (by omega) _ _ | refine Keep.draws _ ?_ | refine Keep.drew ?_ | refine Keep.alloc ?_ _)⟩
  by_cases e1 : x = 1
  · subst e1
    go_wp2_with fail
    refine (raw_any B P a len cap _ HC2.out).mono ?_
    rintro e w3 ⟨y, rfl, hy, hc3, ho3⟩
    have HY : Hid (I64 y) := hy
    have HC3 : Hid (Cur B P a len cap w3) := hc3
    have HK3 : Hid (Keep P w w3) := HK2.out.trans ho3.keep
    obtain ⟨hd3, hf3, hz3⟩ := ho3.keep.cells w.heap.size hz2 (by omega)
    obtain ⟨hr3, hg3, hy3⟩ := ho3.keep.cells w1.heap.size hy2 (by omega)
    clear hc3 ho3 hy
    go_wp2
    exact bodyPost_ret (v := V ty y s) (by simp [results, Tryd.results14, go_sem, hz1, hd1, hd2, cell_other _ w.heap.size w1.heap.size _ _ _ (Nat.ne_of_lt hz1), hd3]) rfl ⟨ty, y, s, rfl, HR.out.1, HY.out, hs, by repeat (first | exact HC3.out | refine Cur.setOther ?_ (by omega) _ _ | refine Cur.draws ?_ _ | refine Cur.drew ?_ | refine Cur.alloc ?_ _), by repeat (first | exact HK3.out | refine Keep.set ?_ (by omega) _ _ | refine Keep.draws _ ?_ | refine Keep.drew ?_ | refine Keep.alloc ?_ _)⟩
  by_cases e2 : x = 2
  · subst e2
    go_wp2_with fail
    refine (below_pos 2 (by omega) (by omega) B P a len cap _ HC2.out).mono ?_
    rintro e w3 ⟨y, rfl, y0, y1, hc3, ho3⟩
    have HC3 : Hid (Cur B P a len cap w3) := hc3
    have HK3 : Hid (Keep P w w3) := HK2.out.trans ho3.keep
    obtain ⟨hd3, hf3, hz3⟩ := ho3.keep.cells w.heap.size hz2 (by omega)
    obtain ⟨hr3, hg3, hy3⟩ := ho3.keep.cells w1.heap.size hy2 (by omega)
    clear hc3 ho3
    have hy : y = 0 ∨ y = 1 := by omega
    rcases hy with rfl | rfl
    · obtain ⟨w4, z, hmk, hcv, hzs, hb4⟩ := mk_some30 w3
      have HC4 : Hid (Cur B P a len cap w4) := HC3.out.on (hb4.mono HC3.out.here)
      have hk4 := (Keep.refl P w3).belowOn hb4
      have HK4 : Hid (Keep P w w4) := HK3.out.trans hk4
      obtain ⟨hd4, hf4, hz4⟩ := hk4.cells w.heap.size hz3 (by omega)
      obtain ⟨hr4, hg4, hy4⟩ := hk4.cells w1.heap.size hy3 (by omega)
      clear hk4 hb4
      go_wp2
      exact bodyPost_ret (v := V ty n z) (by simp [results, Tryd.results14, go_sem, hz1, hd1, hd2, cell_other _ w.heap.size w1.heap.size _ _ _ (Nat.ne_of_lt hz1), hd3, hd4]) rfl ⟨ty, n, z, rfl, HR.out.1, HR.out.2, hzs, by repeat (first | exact HC4.out | refine Cur.setOther ?_ (by omega) _ _ | refine Cur.draws ?_ _ | refine Cur.drew ?_ | refine Cur.alloc ?_ _), by repeat (first | exact HK4.out | refine Keep.set ?_ (by omega) _ _ | refine Keep.draws _ ?_ | refine Keep.drew ?_ | refine Keep.alloc ?_ _)⟩
    · obtain ⟨w4, z, hmk, hcv, hzs, hb4⟩ := mk_some31 w3
      have HC4 : Hid (Cur B P a len cap w4) := HC3.out.on (hb4.mono HC3.out.here)
      have hk4 := (Keep.refl P w3).belowOn hb4
      have HK4 : Hid (Keep P w w4) := HK3.out.trans hk4
      obtain ⟨hd4, hf4, hz4⟩ := hk4.cells w.heap.size hz3 (by omega)
      obtain ⟨hr4, hg4, hy4⟩ := hk4.cells w1.heap.size hy3 (by omega)
      clear hk4 hb4
      go_wp2
      exact bodyPost_ret (v := V ty n z) (by simp [results, Tryd.results14, go_sem, hz1, hd1, hd2, cell_other _ w.heap.size w1.heap.size _ _ _ (Nat.ne_of_lt hz1), hd3, hd4]) rfl ⟨ty, n, z, rfl, HR.out.1, HR.out.2, hzs, by repeat (first | exact HC4.out | refine Cur.setOther ?_ (by omega) _ _ | refine Cur.draws ?_ _ | refine Cur.drew ?_ | refine Cur.alloc ?_ _), by repeat (first | exact HK4.out | refine Keep.set ?_ (by omega) _ _ | refine Keep.draws _ ?_ | refine Keep.drew ?_ | refine Keep.alloc ?_ _)⟩
  · have e0' : (x == 0) = false := by simp [e0]
    have e1' : (x == 1) = false := by simp [e1]
    have e2' : (x == 2) = false := by simp [e2]
    clear e0 e1 e2
    go_wp2
    exact bodyPost_ret (v := V ty n s) (by simp [results, Tryd.results14, go_sem, hz1, hd1, hd2]) rfl ⟨ty, n, s, rfl, HR.out.1, HR.out.2, hs, by repeat (first | exact HC2.out | refine Cur.setOther ?_ (by omega) _ _ | refine Cur.draws ?_ _ | refine Cur.drew ?_ | refine Cur.alloc ?_ _), by repeat (first | exact HK2.out | refine Keep.set ?_ (by omega) _ _ | refine Keep.draws _ ?_ | refine Keep.drew ?_ | refine Keep.alloc ?_ _)⟩
end Go.Proofs.YtmgoplamocgfladDoor
