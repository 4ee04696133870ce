/- What the laws' arguments draw: a value and a type; two values. -/
import Derived.Test.YtmgoplamocgfladDoorAny
namespace Go.Proofs.YtmgoplamocgfladDoor
open Go.ChangeShapes Go.WideShapes Go.ChangeAt Go.RowKit

set_option maxRecDepth 100000 in
set_option maxHeartbeats 1000000 in
/-- spec.DrawCast -/
theorem draw_cast (a : Option Addr) (len cap : Nat) (w : World) (hcode : Code w.heap.size a len w) (hfew : len ≤ 1048576) :
    Calls Tryd.prog 11 #[.slice a len cap] w fun e w' => ∃ ty n s tg, e = .returned (.tuple #[V ty n s, .int .i64 tg]) ∧ I64 ty ∧ I64 n ∧ s.size ≤ 31 ∧ I64 tg ∧ Below w.heap.size w w' := by
  have HC : Hid (Code w.heap.size a len w) := hcode
  clear hcode
  go_enter Tryd.func11, Tryd.ntmps11
  go_wp2_with fail
  refine (new_any w.heap.size a len cap _ (by simp) (HC.out.on (Below.alloc (Below.refl _ _) (Nat.le_refl _) _)) hfew).mono ?_
  rintro e w1 ⟨P, rfl, hP, hc1, hb1⟩
  have hP' : w.heap.size < P := by simp at hP; omega
  have HC1 : Hid (Cur w.heap.size P a len cap w1) := hc1
  have HB1 : Hid (Below w.heap.size w w1) := (Below.alloc (Below.refl _ _) (Nat.le_refl _) _).trans (hb1.mono (by simp))
  have hd1 := fun o => hb1.cell (p := ⟨w.heap.size, o, none⟩) (by simp)
  have hf1 := fun o => hb1.frozen (p := ⟨w.heap.size, o, none⟩) (by simp)
  have hz1 : w.heap.size < w1.heap.size := by have := hb1.size; simp at this; omega
  clear hc1 hb1 hP
  go_wp2_with fail
  refine (any_any w.heap.size P a len cap _ HC1.out).mono ?_
  rintro e w2 ⟨ty, n, s, rfl, ht, hn, hs, hc2, hk2⟩
  have HR : Hid (I64 ty ∧ I64 n) := ⟨ht, hn⟩
  have HC2 : Hid (Cur w.heap.size P a len cap w2) := hc2
  have HB2 : Hid (Below w.heap.size w w2) := HB1.out.trans (hk2.below (by omega) (by omega))
  obtain ⟨hd2, hf2, hz2⟩ := hk2.cells w.heap.size hz1 (by omega)
  clear hc2 hk2 ht hn
  go_wp2_with fail
  have hP2 := HC2.out.here
  refine (below_pos 5 (by omega) (by omega) w.heap.size P a len cap _ (HC2.out.alloc _)).mono ?_
  rintro e w3 ⟨x, rfl, x0, x1, hc3, ho3⟩
  have HC3 : Hid (Cur w.heap.size P a len cap w3) := hc3
  have HB3 : Hid (Below w.heap.size w w3) := HB2.out.trans ((ho3.keep.mk1 _).below (by omega) (by omega))
  obtain ⟨hd3, hf3, hz3⟩ := ho3.keep.cells w.heap.size (by simp; omega) (by omega)
  obtain ⟨hr3, hg3, hy3⟩ := ho3.keep.cells w2.heap.size (by simp) (by omega)
  clear hc3 ho3
  go_wp2_with fail
  refine (below_pos 12 (by omega) (by omega) w.heap.size P a len cap _ HC3.out).mono ?_
  rintro e w4 ⟨y, rfl, y0, y1, hc4, ho4⟩
  have HC4 : Hid (Cur w.heap.size P a len cap w4) := hc4
  have HB4 : Hid (Below w.heap.size w w4) := HB3.out.trans (ho4.keep.below (by omega) (by omega))
  obtain ⟨hd4, hf4, hz4⟩ := ho4.keep.cells w.heap.size hz3 (by omega)
  obtain ⟨hr4, hg4, hy4⟩ := ho4.keep.cells w2.heap.size hy3 (by omega)
  clear hc4 ho4
  by_cases e0 : y = 0
  · subst e0
    go_wp2_with fail
    refine (raw_any w.heap.size P a len cap _ HC4.out).mono ?_
    rintro e w5 ⟨t, rfl, ht, hc5, ho5⟩
    have HT : Hid (I64 t) := ht
    have HB5 : Hid (Below w.heap.size w w5) := HB4.out.trans (ho5.keep.below (by omega) (by omega))
    obtain ⟨hd5, hf5, hz5⟩ := ho5.keep.cells w.heap.size hz4 (by omega)
    obtain ⟨hr5, hg5, hy5⟩ := ho5.keep.cells w2.heap.size hy4 (by omega)
    clear hc5 ho5 ht
    go_wp2
    exact bodyPost_ret (v := .tuple #[V ty n s, .int .i64 t]) (by simp [results, Tryd.results11, go_sem, hz2, hd1, hd2, hd3, hd4, hd5]) rfl ⟨ty, n, s, t, rfl, HR.out.1, HR.out.2, hs, HT.out, by repeat (first | refine Below.drew ?_ | refine below_draws _ ?_ | (refine Below.setCell ?_ (by first | (simp; done) | (simp; omega) | omega) _) | (refine Below.alloc ?_ (by first | (simp; done) | (simp; omega) | omega) _) | exact HB5.out)⟩
  · have e0' : (y == 0) = false := by simp [e0]
    clear e0
    go_wp2
    exact bodyPost_ret (v := .tuple #[V ty n s, .int .i64 x]) (by simp [results, Tryd.results11, go_sem, hz2, hd1, hd2, hd3, hd4]) rfl ⟨ty, n, s, x, rfl, HR.out.1, HR.out.2, hs, ⟨by omega, by omega⟩, by repeat (first | refine Below.drew ?_ | refine below_draws _ ?_ | (refine Below.setCell ?_ (by first | (simp; done) | (simp; omega) | omega) _) | (refine Below.alloc ?_ (by first | (simp; done) | (simp; omega) | omega) _) | exact HB4.out)⟩

set_option maxRecDepth 100000 in
set_option maxHeartbeats 1000000 in
/-- spec.DrawValLess -/
theorem draw_valLess (a : Option Addr) (len cap : Nat) (w : World) (hcode : Code w.heap.size a len w) (hfew : len ≤ 1048576) :
    Calls Tryd.prog 5 #[.slice a len cap] w fun e w' => ∃ ty n s ty' n' s', e = .returned (.tuple #[V ty n s, V ty' n' s']) ∧ I64 ty ∧ I64 n ∧ s.size ≤ 31 ∧ I64 ty' ∧ I64 n' ∧ s'.size ≤ 31 ∧ Below w.heap.size w w' := by
  have HC : Hid (Code w.heap.size a len w) := hcode
  clear hcode
  go_enter Tryd.func5, Tryd.ntmps5
  go_wp2_with fail
  refine (new_any w.heap.size a len cap _ (by simp; omega) (HC.out.on (Below.alloc (Below.alloc (Below.refl _ _) (Nat.le_refl _) _) (by simp) _)) hfew).mono ?_
  rintro e w1 ⟨P, rfl, hP, hc1, hb1⟩
  have hP' : w.heap.size + 1 < P := by simp at hP; omega
  have HC1 : Hid (Cur w.heap.size P a len cap w1) := hc1
  have HB1 : Hid (Below w.heap.size w w1) := (Below.alloc (Below.alloc (Below.refl _ _) (Nat.le_refl _) _) (by simp) _).trans (hb1.mono (by simp; omega))
  have hd1 := fun o => hb1.cell (p := ⟨w.heap.size, o, none⟩) (by simp; omega)
  have hf1 := fun o => hb1.frozen (p := ⟨w.heap.size, o, none⟩) (by simp; omega)
  have hD1 := fun o => hb1.cell (p := ⟨w.heap.size + 1, o, none⟩) (by simp)
  have hF1 := fun o => hb1.frozen (p := ⟨w.heap.size + 1, o, none⟩) (by simp)
  have hz1 : w.heap.size + 1 < w1.heap.size := by have := hb1.size; simp at this; omega
  clear hc1 hb1 hP
  go_wp2_with fail
  refine (any_any w.heap.size P a len cap _ HC1.out).mono ?_
  rintro e w2 ⟨ty, n, s, rfl, ht, hn, hs, hc2, hk2⟩
  have HR : Hid (I64 ty ∧ I64 n) := ⟨ht, hn⟩
  have HC2 : Hid (Cur w.heap.size P a len cap w2) := hc2
  have HB2 : Hid (Below w.heap.size w w2) := HB1.out.trans (hk2.below (by omega) (by omega))
  obtain ⟨hd2, hf2, hz2⟩ := hk2.cells w.heap.size (by omega) (by omega)
  obtain ⟨hD2, hF2, hZ2⟩ := hk2.cells (w.heap.size + 1) hz1 (by omega)
  clear hc2 hk2 ht hn
  go_wp2_with fail
  have hP2 := HC2.out.here
  refine (any_any w.heap.size P a len cap _ (HC2.out.alloc _)).mono ?_
  rintro e w3 ⟨ty', n', s', rfl, ht, hn, hs', hc3, hk3⟩
  have HR' : Hid (I64 ty' ∧ I64 n') := ⟨ht, hn⟩
  have HC3 : Hid (Cur w.heap.size P a len cap w3) := hc3
  have HB3 : Hid (Below w.heap.size w w3) := HB2.out.trans ((hk3.mk1 _).below (by omega) (by omega))
  obtain ⟨hd3, hf3, hz3⟩ := hk3.cells w.heap.size (by simp; omega) (by omega)
  obtain ⟨hD3, hF3, hZ3⟩ := hk3.cells (w.heap.size + 1) (by simp; omega) (by omega)
  obtain ⟨hr3, hg3, hy3⟩ := hk3.cells w2.heap.size (by simp) (by omega)
  clear hc3 hk3 ht hn
  go_wp2
  go_region
  go_wp2
  exact bodyPost_ret (v := .tuple #[V ty n s, V ty' n' s']) (by simp [results, Tryd.results5, go_sem, hz2, hd1, hd2, hd3, hD1, hD2, hD3, hZ2, hz3, hZ3]) rfl ⟨ty, n, s, ty', n', s', rfl, HR.out.1, HR.out.2, hs, HR'.out.1, HR'.out.2, hs', by (refine Below.drew ?_; refine Below.alloc ?_ (by simp; omega) _; refine Below.setCell ?_ (Nat.le_succ _) _; refine Below.setCell ?_ (Nat.le_succ _) _; refine Below.setCell ?_ (Nat.le_succ _) _; refine Below.setCell ?_ (by exact Nat.le_refl _) _; refine Below.setCell ?_ (by exact Nat.le_refl _) _; refine Below.setCell ?_ (by exact Nat.le_refl _) _; exact HB3.out)⟩
end Go.Proofs.YtmgoplamocgfladDoor
