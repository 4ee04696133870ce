/- The walk through the law on Cast. -/
import Derived.Test.YtmgoplamocgfladDoorCastLaw
import Derived.Test.YtmgoplamocgfladDoorCastS
import Derived.Test.YtmgoplamocgfladDoorDraw
namespace Go.Proofs.YtmgoplamocgfladDoor.lawFnCast
open Go.ChangeShapes Go.WideShapes Go.ChangeAt Go.RowKit

set_option maxRecDepth 100000 in
set_option maxHeartbeats 1000000 in
theorem walk (a : Option Addr) (len cap : Nat) (w : World) (hcode : Code w.heap.size a len w) (hT : Tab w) (hE : Errs w) :
    Calls Tryd.prog 4 #[.slice a len cap] w fun e w' => e = .returned (.bool true) ∧ Below w.heap.size w w' := by
  by_cases hl : (1048576 : Int) < len
  · go_enter Tryd.func4, Tryd.ntmps4
    go_wp2
    go_ret
    exact ⟨rfl, Below.refl _ _⟩
  have HC : Hid (Code w.heap.size a len w) := hcode
  have HT : Hid (Tab w) := hT
  have HE : Hid (Errs w) := hE
  clear hcode hT hE
  go_enter Tryd.func4, Tryd.ntmps4
  go_wp2_with fail
  refine (draw_cast a len cap _ HC.out (by omega)).mono ?_
  rintro e w1 ⟨ty, n, s, tg, rfl, ht, hn, hs, htg, hb1⟩
  have HB1 : Hid (Below w.heap.size w w1) := hb1
  have HR : Hid (I64 ty ∧ I64 n ∧ I64 tg) := ⟨ht, hn, htg⟩
  have hz1 := hb1.size
  clear hb1 ht hn htg
  have HS : Hid (∀ w : World, Calls Tryd.prog 12 #[V ty n s, .int .i64 tg] w fun e w' => e = .returned (cRF (castF ty n s tg)) ∧ Below w.heap.size w w') := fun w => cast_spec ty n s tg w
  have HI : Does 9 #[V ty n s, .int .i64 tg] (cRF (castF ty n s tg)) := cast_impl ty n s tg
  have HQ : Does 9 #[V (castF ty n s tg).1 (castF ty n s tg).2.1 (castF ty n s tg).2.2.1, .int .i64 ty] (cRF (castF (castF ty n s tg).1 (castF ty n s tg).2.1 (castF ty n s tg).2.2.1 ty)) := cast_impl _ _ _ ty
  have L1 := castF_no ty n s tg
  have L2 := castF_null n s tg
  have L3 := castF_back ty n s tg
  cases hr : (castF ty n s tg).2.2.2
  · have e := L1 hr
    rw [e] at HI HS
    clear HQ L1 L2 L3 hr e
    go_wp2_with fail
    refine (HI _ (HT.out.on (by repeat (first | refine Below.drew ?_ | refine below_draws _ ?_ | (refine Below.setCell ?_ (by first | (simp; done) | (simp; omega) | omega) _) | (refine Below.alloc ?_ (by first | (simp; done) | (simp; omega) | omega) _) | exact HB1.out))) (HE.out.on (by repeat (first | refine Below.drew ?_ | refine below_draws _ ?_ | (refine Below.setCell ?_ (by first | (simp; done) | (simp; omega) | omega) _) | (refine Below.alloc ?_ (by first | (simp; done) | (simp; omega) | omega) _) | exact HB1.out)))).mono ?_
    rintro e w2 ⟨rfl, hb2⟩
    have hc2 := fun o => hb2.cell (p := ⟨w1.heap.size, o, none⟩) (by simp)
    have hz2 : w1.heap.size < w2.heap.size := by have := hb2.size; simp at this; omega
    have HB2 : Hid (Below w.heap.size w w2) := (Below.alloc HB1.out (by omega) _).trans (hb2.mono (by simp; omega))
    clear hb2
    go_wp2_with fail
    refine (HS.out _).mono ?_
    rintro e w3 ⟨rfl, hb3⟩
    have hc3 := fun o => hb3.cell (p := ⟨w1.heap.size, o, none⟩) (by simp; omega)
    have hC3 := fun o => hb3.cell (p := ⟨w2.heap.size, o, none⟩) (by simp)
    have hz3 : w2.heap.size < w3.heap.size := by have := hb3.size; simp at this; omega
    have hy3 : w1.heap.size < w3.heap.size := by omega
    have HB3 : Hid (Below w.heap.size w w3) := (Below.alloc HB2.out (by omega) _).trans (hb3.mono (by simp; omega))
    clear hb3
    go_wp2
    go_ret
    exact ⟨rfl, by repeat (first | refine Below.drew ?_ | refine below_draws _ ?_ | (refine Below.setCell ?_ (by first | (simp; done) | (simp; omega) | omega) _) | (refine Below.alloc ?_ (by first | (simp; done) | (simp; omega) | omega) _) | exact HB3.out)⟩
  by_cases h0 : ty = 0
  · subst h0
    obtain ⟨e, rfl, rfl⟩ := L2 hr
    rw [e] at HI HS
    clear HQ L1 L2 L3 hr e
    go_wp2_with fail
    refine (HI _ (HT.out.on (by repeat (first | refine Below.drew ?_ | refine below_draws _ ?_ | (refine Below.setCell ?_ (by first | (simp; done) | (simp; omega) | omega) _) | (refine Below.alloc ?_ (by first | (simp; done) | (simp; omega) | omega) _) | exact HB1.out))) (HE.out.on (by repeat (first | refine Below.drew ?_ | refine below_draws _ ?_ | (refine Below.setCell ?_ (by first | (simp; done) | (simp; omega) | omega) _) | (refine Below.alloc ?_ (by first | (simp; done) | (simp; omega) | omega) _) | exact HB1.out)))).mono ?_
    rintro e w2 ⟨rfl, hb2⟩
    have hc2 := fun o => hb2.cell (p := ⟨w1.heap.size, o, none⟩) (by simp)
    have hz2 : w1.heap.size < w2.heap.size := by have := hb2.size; simp at this; omega
    have HB2 : Hid (Below w.heap.size w w2) := (Below.alloc HB1.out (by omega) _).trans (hb2.mono (by simp; omega))
    clear hb2
    go_wp2_with fail
    refine (HS.out _).mono ?_
    rintro e w3 ⟨rfl, hb3⟩
    have hc3 := fun o => hb3.cell (p := ⟨w1.heap.size, o, none⟩) (by simp; omega)
    have hC3 := fun o => hb3.cell (p := ⟨w2.heap.size, o, none⟩) (by simp)
    have hz3 : w2.heap.size < w3.heap.size := by have := hb3.size; simp at this; omega
    have hy3 : w1.heap.size < w3.heap.size := by omega
    have HB3 : Hid (Below w.heap.size w w3) := (Below.alloc HB2.out (by omega) _).trans (hb3.mono (by simp; omega))
    clear hb3
    go_wp2
    go_ret
    exact ⟨rfl, by repeat (first | refine Below.drew ?_ | refine below_draws _ ?_ | (refine Below.setCell ?_ (by first | (simp; done) | (simp; omega) | omega) _) | (refine Below.alloc ?_ (by first | (simp; done) | (simp; omega) | omega) _) | exact HB3.out)⟩
  · obtain ⟨e1, e2⟩ := L3 h0 hr
    have t0 : (ty == 0) = false := by simp [h0]
    clear L1 L2 L3 h0
    generalize castF ty n s tg = r at HI HS HQ e1 e2 hr
    obtain ⟨rt, rn, rs, rb⟩ := r
    simp only at e1 hr HQ e2
    subst e1 hr
    generalize castF rt rn rs ty = q at HQ e2
    obtain ⟨qt, qn, qs, qb⟩ := q
    simp only at e2
    rcases e2 with rfl | rfl | e
    · go_wp2_with fail
      refine (HI _ (HT.out.on (by repeat (first | refine Below.drew ?_ | refine below_draws _ ?_ | (refine Below.setCell ?_ (by first | (simp; done) | (simp; omega) | omega) _) | (refine Below.alloc ?_ (by first | (simp; done) | (simp; omega) | omega) _) | exact HB1.out))) (HE.out.on (by repeat (first | refine Below.drew ?_ | refine below_draws _ ?_ | (refine Below.setCell ?_ (by first | (simp; done) | (simp; omega) | omega) _) | (refine Below.alloc ?_ (by first | (simp; done) | (simp; omega) | omega) _) | exact HB1.out)))).mono ?_
      rintro e w2 ⟨rfl, hb2⟩
      have hc2 := fun o => hb2.cell (p := ⟨w1.heap.size, o, none⟩) (by simp)
      have hz2 : w1.heap.size < w2.heap.size := by have := hb2.size; simp at this; omega
      have HB2 : Hid (Below w.heap.size w w2) := (Below.alloc HB1.out (by omega) _).trans (hb2.mono (by simp; omega))
      clear hb2
      go_wp2_with fail
      refine (HS.out _).mono ?_
      rintro e w3 ⟨rfl, hb3⟩
      have hc3 := fun o => hb3.cell (p := ⟨w1.heap.size, o, none⟩) (by simp; omega)
      have hC3 := fun o => hb3.cell (p := ⟨w2.heap.size, o, none⟩) (by simp)
      have hz3 : w2.heap.size < w3.heap.size := by have := hb3.size; simp at this; omega
      have hy3 : w1.heap.size < w3.heap.size := by omega
      have HB3 : Hid (Below w.heap.size w w3) := (Below.alloc HB2.out (by omega) _).trans (hb3.mono (by simp; omega))
      clear hb3
      go_wp2_with fail
      refine (HQ _ (HT.out.on (by repeat (first | refine Below.drew ?_ | refine below_draws _ ?_ | (refine Below.setCell ?_ (by first | (simp; done) | (simp; omega) | omega) _) | (refine Below.alloc ?_ (by first | (simp; done) | (simp; omega) | omega) _) | exact HB3.out))) (HE.out.on (by repeat (first | refine Below.drew ?_ | refine below_draws _ ?_ | (refine Below.setCell ?_ (by first | (simp; done) | (simp; omega) | omega) _) | (refine Below.alloc ?_ (by first | (simp; done) | (simp; omega) | omega) _) | exact HB3.out)))).mono ?_
      rintro e w4 ⟨rfl, hb4⟩
      have hc4 := fun o => hb4.cell (p := ⟨w1.heap.size, o, none⟩) (by simp; omega)
      have hC4 := fun o => hb4.cell (p := ⟨w2.heap.size, o, none⟩) (by simp; omega)
      have hz4 : w3.heap.size < w4.heap.size := by have := hb4.size; simp at this; omega
      have hy4 : w1.heap.size < w4.heap.size := by omega
      have hY4 : w2.heap.size < w4.heap.size := by omega
      have HB4 : Hid (Below w.heap.size w w4) := (Below.alloc HB3.out (by omega) _).trans (hb4.mono (by simp; omega))
      clear hb4
      go_wp2
      go_ret
      exact ⟨rfl, by repeat (first | refine Below.drew ?_ | refine below_draws _ ?_ | (refine Below.setCell ?_ (by first | (simp; done) | (simp; omega) | omega) _) | (refine Below.alloc ?_ (by first | (simp; done) | (simp; omega) | omega) _) | exact HB4.out)⟩
    · cases qb
      all_goals
        go_wp2_with fail
        refine (HI _ (HT.out.on (by repeat (first | refine Below.drew ?_ | refine below_draws _ ?_ | (refine Below.setCell ?_ (by first | (simp; done) | (simp; omega) | omega) _) | (refine Below.alloc ?_ (by first | (simp; done) | (simp; omega) | omega) _) | exact HB1.out))) (HE.out.on (by repeat (first | refine Below.drew ?_ | refine below_draws _ ?_ | (refine Below.setCell ?_ (by first | (simp; done) | (simp; omega) | omega) _) | (refine Below.alloc ?_ (by first | (simp; done) | (simp; omega) | omega) _) | exact HB1.out)))).mono ?_
        rintro e w2 ⟨rfl, hb2⟩
        have hc2 := fun o => hb2.cell (p := ⟨w1.heap.size, o, none⟩) (by simp)
        have hz2 : w1.heap.size < w2.heap.size := by have := hb2.size; simp at this; omega
        have HB2 : Hid (Below w.heap.size w w2) := (Below.alloc HB1.out (by omega) _).trans (hb2.mono (by simp; omega))
        clear hb2
        go_wp2_with fail
        refine (HS.out _).mono ?_
        rintro e w3 ⟨rfl, hb3⟩
        have hc3 := fun o => hb3.cell (p := ⟨w1.heap.size, o, none⟩) (by simp; omega)
        have hC3 := fun o => hb3.cell (p := ⟨w2.heap.size, o, none⟩) (by simp)
        have hz3 : w2.heap.size < w3.heap.size := by have := hb3.size; simp at this; omega
        have hy3 : w1.heap.size < w3.heap.size := by omega
        have HB3 : Hid (Below w.heap.size w w3) := (Below.alloc HB2.out (by omega) _).trans (hb3.mono (by simp; omega))
        clear hb3
        go_wp2_with fail
        refine (HQ _ (HT.out.on (by repeat (first | refine Below.drew ?_ | refine below_draws _ ?_ | (refine Below.setCell ?_ (by first | (simp; done) | (simp; omega) | omega) _) | (refine Below.alloc ?_ (by first | (simp; done) | (simp; omega) | omega) _) | exact HB3.out))) (HE.out.on (by repeat (first | refine Below.drew ?_ | refine below_draws _ ?_ | (refine Below.setCell ?_ (by first | (simp; done) | (simp; omega) | omega) _) | (refine Below.alloc ?_ (by first | (simp; done) | (simp; omega) | omega) _) | exact HB3.out)))).mono ?_
        rintro e w4 ⟨rfl, hb4⟩
        have hc4 := fun o => hb4.cell (p := ⟨w1.heap.size, o, none⟩) (by simp; omega)
        have hC4 := fun o => hb4.cell (p := ⟨w2.heap.size, o, none⟩) (by simp; omega)
        have hz4 : w3.heap.size < w4.heap.size := by have := hb4.size; simp at this; omega
        have hy4 : w1.heap.size < w4.heap.size := by omega
        have hY4 : w2.heap.size < w4.heap.size := by omega
        have HB4 : Hid (Below w.heap.size w w4) := (Below.alloc HB3.out (by omega) _).trans (hb4.mono (by simp; omega))
        clear hb4
        go_wp2
        go_ret
        exact ⟨rfl, by repeat (first | refine Below.drew ?_ | refine below_draws _ ?_ | (refine Below.setCell ?_ (by first | (simp; done) | (simp; omega) | omega) _) | (refine Below.alloc ?_ (by first | (simp; done) | (simp; omega) | omega) _) | exact HB4.out)⟩
    · simp only [Prod.mk.injEq] at e
      obtain ⟨rfl, rfl, rfl, rfl⟩ := e
      cases t3 : (qt == 3)
      all_goals
        go_wp2_with fail
        refine (HI _ (HT.out.on (by repeat (first | refine Below.drew ?_ | refine below_draws _ ?_ | (refine Below.setCell ?_ (by first | (simp; done) | (simp; omega) | omega) _) | (refine Below.alloc ?_ (by first | (simp; done) | (simp; omega) | omega) _) | exact HB1.out))) (HE.out.on (by repeat (first | refine Below.drew ?_ | refine below_draws _ ?_ | (refine Below.setCell ?_ (by first | (simp; done) | (simp; omega) | omega) _) | (refine Below.alloc ?_ (by first | (simp; done) | (simp; omega) | omega) _) | exact HB1.out)))).mono ?_
        rintro e w2 ⟨rfl, hb2⟩
        have hc2 := fun o => hb2.cell (p := ⟨w1.heap.size, o, none⟩) (by simp)
        have hz2 : w1.heap.size < w2.heap.size := by have := hb2.size; simp at this; omega
        have HB2 : Hid (Below w.heap.size w w2) := (Below.alloc HB1.out (by omega) _).trans (hb2.mono (by simp; omega))
        clear hb2
        go_wp2_with fail
        refine (HS.out _).mono ?_
        rintro e w3 ⟨rfl, hb3⟩
        have hc3 := fun o => hb3.cell (p := ⟨w1.heap.size, o, none⟩) (by simp; omega)
        have hC3 := fun o => hb3.cell (p := ⟨w2.heap.size, o, none⟩) (by simp)
        have hz3 : w2.heap.size < w3.heap.size := by have := hb3.size; simp at this; omega
        have hy3 : w1.heap.size < w3.heap.size := by omega
        have HB3 : Hid (Below w.heap.size w w3) := (Below.alloc HB2.out (by omega) _).trans (hb3.mono (by simp; omega))
        clear hb3
        go_wp2_with fail
        refine (HQ _ (HT.out.on (by repeat (first | refine Below.drew ?_ | refine below_draws _ ?_ | (refine Below.setCell ?_ (by first | (simp; done) | (simp; omega) | omega) _) | (refine Below.alloc ?_ (by first | (simp; done) | (simp; omega) | omega) _) | exact HB3.out))) (HE.out.on (by repeat (first | refine Below.drew ?_ | refine below_draws _ ?_ | (refine Below.setCell ?_ (by first | (simp; done) | (simp; omega) | omega) _) | (refine Below.alloc ?_ (by first | (simp; done) | (simp; omega) | omega) _) | exact HB3.out)))).mono ?_
        rintro e w4 ⟨rfl, hb4⟩
        have hc4 := fun o => hb4.cell (p := ⟨w1.heap.size, o, none⟩) (by simp; omega)
        have hC4 := fun o => hb4.cell (p := ⟨w2.heap.size, o, none⟩) (by simp; omega)
        have hz4 : w3.heap.size < w4.heap.size := by have := hb4.size; simp at this; omega
        have hy4 : w1.heap.size < w4.heap.size := by omega
        have hY4 : w2.heap.size < w4.heap.size := by omega
        have HB4 : Hid (Below w.heap.size w w4) := (Below.alloc HB3.out (by omega) _).trans (hb4.mono (by simp; omega))
        clear hb4
        go_wp2
        go_ret
        exact ⟨rfl, by repeat (first | refine Below.drew ?_ | refine below_draws _ ?_ | (refine Below.setCell ?_ (by first | (simp; done) | (simp; omega) | omega) _) | (refine Below.alloc ?_ (by first | (simp; done) | (simp; omega) | omega) _) | exact HB4.out)⟩
end Go.Proofs.YtmgoplamocgfladDoor.lawFnCast
