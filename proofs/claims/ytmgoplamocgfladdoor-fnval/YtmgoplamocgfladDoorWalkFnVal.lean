/- The walk through the law on values. -/
import Derived.Test.YtmgoplamocgfladDoorValLaw
import Derived.Test.YtmgoplamocgfladDoorTextValI
import Derived.Test.YtmgoplamocgfladDoorDraw
namespace Go.Proofs.YtmgoplamocgfladDoor.lawFnVal
open Go.ChangeShapes Go.WideShapes Go.ChangeAt Go.RowKit

/-- What a call leaves in two blocks side by side. -/
theorem two {W w' : World} (hb : Below W.heap.size W w') (R : Nat) (h : R + 1 < W.heap.size) :
    (∀ o, w'.cell? ⟨R, o, none⟩ = W.cell? ⟨R, o, none⟩) ∧ (∀ o, w'.cell? ⟨R + 1, o, none⟩ = W.cell? ⟨R + 1, o, none⟩) ∧ R < w'.heap.size ∧ R + 1 < w'.heap.size :=
  ⟨fun o => hb.cell (p := ⟨R, o, none⟩) (by show R < _; omega), fun o => hb.cell (p := ⟨R + 1, o, none⟩) h, by have := hb.size; omega, by have := hb.size; omega⟩

set_option maxRecDepth 100000 in
set_option maxHeartbeats 8000000 in
theorem walk (a : Option Addr) (len cap : Nat) (w : World) (hcode : Code w.heap.size a len w) (hT : Tab w) (hE : Errs w) :
    Calls Tryd.prog 3 #[.slice a len cap] w fun e w' => e = .returned (.bool true) ∧ Below w.heap.size w w' := by
  by_cases hl : (1048576 : Int) < len
  · go_enter Tryd.func3, Tryd.ntmps3
    go_wp2
    go_ret
    exact ⟨rfl, Below.refl _ _⟩
  have HC : Hid (Code w.heap.size a len w) := hcode
  have HT : Hid (Tab w) := hT
  have HE : Hid (Errs w) := hE
  clear hcode hT hE
  go_enter Tryd.func3, Tryd.ntmps3
  go_wp2_with fail
  refine (draw_valLess a len cap _ HC.out (by omega)).mono ?_
  rintro e w1 ⟨t1, n1, s1, t2, n2, s2, rfl, -, -, -, -, -, -, hb1⟩
  have HB1 : Hid (Below w.heap.size w w1) := hb1
  have hz1 := hb1.size
  clear hb1
  have HV : Hid (∀ w : World, Tab w → Calls Tryd.prog 6 #[V t1 n1 s1] w fun e w' => e = .returned (.string (valText t1 n1 s1)) ∧ Below w.heap.size w w') := fun w h => valText_impl t1 n1 s1 w h
  have HO1 : Hid (∀ w : World, Calls Tryd.prog 7 #[V t1 n1 s1] w fun e w' => e = .returned (.bool (okB t1 n1 s1)) ∧ Below w.heap.size w w') := fun w => (ok_spec t1 n1 s1 w).mono fun _ _ ⟨he, hw⟩ => ⟨he, hw ▸ Below.alloc (Below.refl _ _) (Nat.le_refl _) _⟩
  have HO2 : Hid (∀ w : World, Calls Tryd.prog 7 #[V t2 n2 s2] w fun e w' => e = .returned (.bool (okB t2 n2 s2)) ∧ Below w.heap.size w w') := fun w => (ok_spec t2 n2 s2 w).mono fun _ _ ⟨he, hw⟩ => ⟨he, hw ▸ Below.alloc (Below.refl _ _) (Nat.le_refl _) _⟩
  have HX : Does 9 #[V t1 n1 s1, .int .i64 t1] (cRF (castF t1 n1 s1 t1)) := cast_impl t1 n1 s1 t1
  have HL : Hid (∀ w : World, Calls Tryd.prog 10 #[V t1 n1 s1, V t2 n2 s2] w fun e w' => e = .returned (.bool (lessB t1 n1 s1 t2 n2 s2)) ∧ Below w.heap.size w w') := fun w => less_impl t1 n1 s1 t2 n2 s2 w
  have HM : Hid (∀ w : World, Calls Tryd.prog 10 #[V t2 n2 s2, V t1 n1 s1] w fun e w' => e = .returned (.bool (lessB t2 n2 s2 t1 n1 s1)) ∧ Below w.heap.size w w') := fun w => less_impl t2 n2 s2 t1 n1 s1 w
  cases hk1 : okB t1 n1 s1
  · have eV : valText t1 n1 s1 = noS := by rw [valText, if_pos hk1]
    have eX : castF t1 n1 s1 t1 = (0, 0, noS, false) := by rw [castF, if_pos hk1]
    have eL := less_no1 t1 n1 s1 t2 n2 s2 hk1
    rw [eV] at HV
    rw [hk1] at HO1
    rw [eX] at HX
    rw [eL] at HL
    clear hk1 eV eX eL HM HO2
    go_wp2_with fail
    refine (HV.out _ (HT.out.on (by repeat (first | refine Below.drew ?_ | refine below_draws _ ?_ | (refine Below.setCell ?_ (by first | (simp; done) | (simp; omega) | omega) _) | (refine Below.alloc ?_ (by first | (simp; done) | (simp; omega) | omega) _) | exact HB1.out)))).mono ?_
    rintro e w2 ⟨rfl, hb2⟩
    obtain ⟨hc2, hC2, hz2, hZ2⟩ := two hb2 w1.heap.size (by first | omega | (simp; done) | (simp; omega))
    have HB2 : Hid (Below w.heap.size w w2) := by
      refine Below.trans ?_ (hb2.mono (by first | omega | (simp; done) | (simp; omega)))
      repeat (first | refine Below.drew ?_ | refine below_draws _ ?_ | (refine Below.setCell ?_ (by first | (simp; done) | (simp; omega) | omega) _) | (refine Below.alloc ?_ (by first | (simp; done) | (simp; omega) | omega) _) | exact HB1.out)
    clear hb2
    go_wp2_with fail
    refine (HO1.out _).mono ?_
    rintro e w3 ⟨rfl, hb3⟩
    obtain ⟨hc3, hC3, hz3, hZ3⟩ := two hb3 w1.heap.size (by first | omega | (simp; done) | (simp; omega))
    have HB3 : Hid (Below w.heap.size w w3) := by
      refine Below.trans ?_ (hb3.mono (by first | omega | (simp; done) | (simp; omega)))
      repeat (first | refine Below.drew ?_ | refine below_draws _ ?_ | (refine Below.setCell ?_ (by first | (simp; done) | (simp; omega) | omega) _) | (refine Below.alloc ?_ (by first | (simp; done) | (simp; omega) | omega) _) | exact HB2.out)
    clear hb3
    go_wp2_with fail
    refine (textVal_impl noS (by decide) _ (HT.out.on (by repeat (first | refine Below.drew ?_ | refine below_draws _ ?_ | (refine Below.setCell ?_ (by first | (simp; done) | (simp; omega) | omega) _) | (refine Below.alloc ?_ (by first | (simp; done) | (simp; omega) | omega) _) | exact HB3.out))) (HE.out.on (by repeat (first | refine Below.drew ?_ | refine below_draws _ ?_ | (refine Below.setCell ?_ (by first | (simp; done) | (simp; omega) | omega) _) | (refine Below.alloc ?_ (by first | (simp; done) | (simp; omega) | omega) _) | exact HB3.out)))).mono ?_
    rintro e w4 ⟨ty, n, r, b, rfl, htv, hb4⟩
    obtain ⟨rfl, rfl, rfl, rfl⟩ := tvr_no htv
    clear htv
    obtain ⟨hc4, hC4, hz4, hZ4⟩ := two hb4 w1.heap.size (by first | omega | (simp; done) | (simp; omega))
    have HB4 : Hid (Below w.heap.size w w4) := by
      refine Below.trans ?_ (hb4.mono (by first | omega | (simp; done) | (simp; omega)))
      repeat (first | refine Below.drew ?_ | refine below_draws _ ?_ | (refine Below.setCell ?_ (by first | (simp; done) | (simp; omega) | omega) _) | (refine Below.alloc ?_ (by first | (simp; done) | (simp; omega) | omega) _) | exact HB3.out)
    clear hb4
    go_wp2_with fail
    refine (HX _ (HT.out.on (by repeat (first | refine Below.drew ?_ | refine below_draws _ ?_ | (refine Below.setCell ?_ (by first | (simp; done) | (simp; omega) | omega) _) | (refine Below.alloc ?_ (by first | (simp; done) | (simp; omega) | omega) _) | exact HB4.out))) (HE.out.on (by repeat (first | refine Below.drew ?_ | refine below_draws _ ?_ | (refine Below.setCell ?_ (by first | (simp; done) | (simp; omega) | omega) _) | (refine Below.alloc ?_ (by first | (simp; done) | (simp; omega) | omega) _) | exact HB4.out)))).mono ?_
    rintro e w5 ⟨rfl, hb5⟩
    obtain ⟨hc5, hC5, hz5, hZ5⟩ := two hb5 w1.heap.size (by first | omega | (simp; done) | (simp; omega))
    have HB5 : Hid (Below w.heap.size w w5) := by
      refine Below.trans ?_ (hb5.mono (by first | omega | (simp; done) | (simp; omega)))
      repeat (first | refine Below.drew ?_ | refine below_draws _ ?_ | (refine Below.setCell ?_ (by first | (simp; done) | (simp; omega) | omega) _) | (refine Below.alloc ?_ (by first | (simp; done) | (simp; omega) | omega) _) | exact HB4.out)
    clear hb5
    go_wp2_with fail
    refine (HO1.out _).mono ?_
    rintro e w6 ⟨rfl, hb6⟩
    obtain ⟨hc6, hC6, hz6, hZ6⟩ := two hb6 w1.heap.size (by first | omega | (simp; done) | (simp; omega))
    have HB6 : Hid (Below w.heap.size w w6) := by
      refine Below.trans ?_ (hb6.mono (by first | omega | (simp; done) | (simp; omega)))
      repeat (first | refine Below.drew ?_ | refine below_draws _ ?_ | (refine Below.setCell ?_ (by first | (simp; done) | (simp; omega) | omega) _) | (refine Below.alloc ?_ (by first | (simp; done) | (simp; omega) | omega) _) | exact HB5.out)
    clear hb6
    go_wp2_with fail
    refine (HO1.out _).mono ?_
    rintro e w7 ⟨rfl, hb7⟩
    obtain ⟨hc7, hC7, hz7, hZ7⟩ := two hb7 w1.heap.size (by first | omega | (simp; done) | (simp; omega))
    have HB7 : Hid (Below w.heap.size w w7) := by
      refine Below.trans ?_ (hb7.mono (by first | omega | (simp; done) | (simp; omega)))
      repeat (first | refine Below.drew ?_ | refine below_draws _ ?_ | (refine Below.setCell ?_ (by first | (simp; done) | (simp; omega) | omega) _) | (refine Below.alloc ?_ (by first | (simp; done) | (simp; omega) | omega) _) | exact HB6.out)
    clear hb7
    go_wp2_with fail
    refine (HL.out _).mono ?_
    rintro e w8 ⟨rfl, hb8⟩
    obtain ⟨hc8, hC8, hz8, hZ8⟩ := two hb8 w1.heap.size (by first | omega | (simp; done) | (simp; omega))
    have HB8 : Hid (Below w.heap.size w w8) := by
      refine Below.trans ?_ (hb8.mono (by first | omega | (simp; done) | (simp; omega)))
      repeat (first | refine Below.drew ?_ | refine below_draws _ ?_ | (refine Below.setCell ?_ (by first | (simp; done) | (simp; omega) | omega) _) | (refine Below.alloc ?_ (by first | (simp; done) | (simp; omega) | omega) _) | exact HB7.out)
    clear hb8
    go_wp2
    go_ret
    exact ⟨rfl, by repeat (first | refine Below.drew ?_ | refine below_draws _ ?_ | (refine Below.setCell ?_ (by first | (simp; done) | (simp; omega) | omega) _) | (refine Below.alloc ?_ (by first | (simp; done) | (simp; omega) | omega) _) | exact HB8.out)⟩
  have hS := vt_some t1 n1 s1 hk1
  have HZ : Hid ((valText t1 n1 s1).size ≤ 1048576) := vt_size t1 n1 s1
  have HTV : Hid (∀ {ty' n' : Int} {r' : ByteArray} {b' : Bool}, TvR (valText t1 n1 s1) ty' n' r' b' → ty' = t1 ∧ n' = n1 ∧ r' = s1 ∧ b' = true) := fun h => tvr_yes t1 n1 s1 hk1 h
  generalize valText t1 n1 s1 = S at HV hS HZ HTV
  rw [hk1] at HO1
  have hk1' := hk1
  obtain ⟨rt, rn, rs, rb, eX, eR⟩ : ∃ rt rn rs rb, castF t1 n1 s1 t1 = (rt, rn, rs, rb) ∧ ((t1 = 0 ∧ rb = false) ∨ ((t1 != 0) = true ∧ rt = t1 ∧ rn = n1 ∧ rs = s1 ∧ rb = true)) := by
    by_cases h0 : t1 = 0
    · subst h0
      exact ⟨0, 0, noS, false, by rw [castF, if_neg (by rw [hk1]; simp), if_pos (Or.inl (by omega))], Or.inl ⟨rfl, rfl⟩⟩
    · exact ⟨t1, n1, s1, true, castF_self t1 n1 s1 hk1 h0, Or.inr ⟨by simp [h0], rfl, rfl, rfl, rfl⟩⟩
  rw [eX] at HX
  clear eX hk1
  cases hk2 : okB t2 n2 s2
  · have eL := less_no2 t1 n1 s1 t2 n2 s2 hk2
    rw [hk2] at HO2
    rw [eL] at HL
    clear hk2 eL HM hk1'
    rcases eR with ⟨rfl, rfl⟩ | ⟨e0, rfl, rfl, rfl, rfl⟩
    all_goals
      go_wp2_with fail
      refine (HV.out _ (HT.out.on (by repeat (first | refine Below.drew ?_ | refine below_draws _ ?_ | (refine Below.setCell ?_ (by first | (simp; done) | (simp; omega) | omega) _) | (refine Below.alloc ?_ (by first | (simp; done) | (simp; omega) | omega) _) | exact HB1.out)))).mono ?_
      rintro e w2 ⟨rfl, hb2⟩
      obtain ⟨hc2, hC2, hz2, hZ2⟩ := two hb2 w1.heap.size (by first | omega | (simp; done) | (simp; omega))
      have HB2 : Hid (Below w.heap.size w w2) := by
        refine Below.trans ?_ (hb2.mono (by first | omega | (simp; done) | (simp; omega)))
        repeat (first | refine Below.drew ?_ | refine below_draws _ ?_ | (refine Below.setCell ?_ (by first | (simp; done) | (simp; omega) | omega) _) | (refine Below.alloc ?_ (by first | (simp; done) | (simp; omega) | omega) _) | exact HB1.out)
      clear hb2
      go_wp2_with fail
      refine (HO1.out _).mono ?_
      rintro e w3 ⟨rfl, hb3⟩
      obtain ⟨hc3, hC3, hz3, hZ3⟩ := two hb3 w1.heap.size (by first | omega | (simp; done) | (simp; omega))
      have HB3 : Hid (Below w.heap.size w w3) := by
        refine Below.trans ?_ (hb3.mono (by first | omega | (simp; done) | (simp; omega)))
        repeat (first | refine Below.drew ?_ | refine below_draws _ ?_ | (refine Below.setCell ?_ (by first | (simp; done) | (simp; omega) | omega) _) | (refine Below.alloc ?_ (by first | (simp; done) | (simp; omega) | omega) _) | exact HB2.out)
      clear hb3
      go_wp2_with fail
      refine (textVal_impl _ HZ.out _ (HT.out.on (by repeat (first | refine Below.drew ?_ | refine below_draws _ ?_ | (refine Below.setCell ?_ (by first | (simp; done) | (simp; omega) | omega) _) | (refine Below.alloc ?_ (by first | (simp; done) | (simp; omega) | omega) _) | exact HB3.out))) (HE.out.on (by repeat (first | refine Below.drew ?_ | refine below_draws _ ?_ | (refine Below.setCell ?_ (by first | (simp; done) | (simp; omega) | omega) _) | (refine Below.alloc ?_ (by first | (simp; done) | (simp; omega) | omega) _) | exact HB3.out)))).mono ?_
      rintro e w4 ⟨ty, n, r, b, rfl, htv, hb4⟩
      obtain ⟨rfl, rfl, rfl, rfl⟩ := HTV.out htv
      clear htv HTV HZ
      obtain ⟨hc4, hC4, hz4, hZ4⟩ := two hb4 w1.heap.size (by first | omega | (simp; done) | (simp; omega))
      have HB4 : Hid (Below w.heap.size w w4) := by
        refine Below.trans ?_ (hb4.mono (by first | omega | (simp; done) | (simp; omega)))
        repeat (first | refine Below.drew ?_ | refine below_draws _ ?_ | (refine Below.setCell ?_ (by first | (simp; done) | (simp; omega) | omega) _) | (refine Below.alloc ?_ (by first | (simp; done) | (simp; omega) | omega) _) | exact HB3.out)
      clear hb4
      go_wp2_with fail
      refine (HX _ (HT.out.on (by repeat (first | refine Below.drew ?_ | refine below_draws _ ?_ | (refine Below.setCell ?_ (by first | (simp; done) | (simp; omega) | omega) _) | (refine Below.alloc ?_ (by first | (simp; done) | (simp; omega) | omega) _) | exact HB4.out))) (HE.out.on (by repeat (first | refine Below.drew ?_ | refine below_draws _ ?_ | (refine Below.setCell ?_ (by first | (simp; done) | (simp; omega) | omega) _) | (refine Below.alloc ?_ (by first | (simp; done) | (simp; omega) | omega) _) | exact HB4.out)))).mono ?_
      rintro e w5 ⟨rfl, hb5⟩
      obtain ⟨hc5, hC5, hz5, hZ5⟩ := two hb5 w1.heap.size (by first | omega | (simp; done) | (simp; omega))
      have HB5 : Hid (Below w.heap.size w w5) := by
        refine Below.trans ?_ (hb5.mono (by first | omega | (simp; done) | (simp; omega)))
        repeat (first | refine Below.drew ?_ | refine below_draws _ ?_ | (refine Below.setCell ?_ (by first | (simp; done) | (simp; omega) | omega) _) | (refine Below.alloc ?_ (by first | (simp; done) | (simp; omega) | omega) _) | exact HB4.out)
      clear hb5
      go_wp2_with fail
      refine (HO1.out _).mono ?_
      rintro e w6 ⟨rfl, hb6⟩
      have hd6 := fun o => hb6.cell (p := ⟨w5.heap.size, o, none⟩) (by simp)
      have hy6 : w5.heap.size < w6.heap.size := by have := hb6.size; simp at this; omega
      obtain ⟨hc6, hC6, hz6, hZ6⟩ := two hb6 w1.heap.size (by first | omega | (simp; done) | (simp; omega))
      have HB6 : Hid (Below w.heap.size w w6) := by
        refine Below.trans ?_ (hb6.mono (by first | omega | (simp; done) | (simp; omega)))
        repeat (first | refine Below.drew ?_ | refine below_draws _ ?_ | (refine Below.setCell ?_ (by first | (simp; done) | (simp; omega) | omega) _) | (refine Below.alloc ?_ (by first | (simp; done) | (simp; omega) | omega) _) | exact HB5.out)
      clear hb6
      go_wp2_with fail
      refine (HO1.out _).mono ?_
      rintro e w7 ⟨rfl, hb7⟩
      obtain ⟨hc7, hC7, hz7, hZ7⟩ := two hb7 w1.heap.size (by first | omega | (simp; done) | (simp; omega))
      have HB7 : Hid (Below w.heap.size w w7) := by
        refine Below.trans ?_ (hb7.mono (by first | omega | (simp; done) | (simp; omega)))
        repeat (first | refine Below.drew ?_ | refine below_draws _ ?_ | (refine Below.setCell ?_ (by first | (simp; done) | (simp; omega) | omega) _) | (refine Below.alloc ?_ (by first | (simp; done) | (simp; omega) | omega) _) | exact HB6.out)
      clear hb7
      go_wp2_with fail
      refine (HO2.out _).mono ?_
      rintro e w8 ⟨rfl, hb8⟩
      obtain ⟨hc8, hC8, hz8, hZ8⟩ := two hb8 w1.heap.size (by first | omega | (simp; done) | (simp; omega))
      have HB8 : Hid (Below w.heap.size w w8) := by
        refine Below.trans ?_ (hb8.mono (by first | omega | (simp; done) | (simp; omega)))
        repeat (first | refine Below.drew ?_ | refine below_draws _ ?_ | (refine Below.setCell ?_ (by first | (simp; done) | (simp; omega) | omega) _) | (refine Below.alloc ?_ (by first | (simp; done) | (simp; omega) | omega) _) | exact HB7.out)
      clear hb8
      go_wp2_with fail
      refine (HL.out _).mono ?_
      rintro e w9 ⟨rfl, hb9⟩
      obtain ⟨hc9, hC9, hz9, hZ9⟩ := two hb9 w1.heap.size (by first | omega | (simp; done) | (simp; omega))
      have HB9 : Hid (Below w.heap.size w w9) := by
        refine Below.trans ?_ (hb9.mono (by first | omega | (simp; done) | (simp; omega)))
        repeat (first | refine Below.drew ?_ | refine below_draws _ ?_ | (refine Below.setCell ?_ (by first | (simp; done) | (simp; omega) | omega) _) | (refine Below.alloc ?_ (by first | (simp; done) | (simp; omega) | omega) _) | exact HB8.out)
      clear hb9
      go_wp2
      go_ret
      exact ⟨rfl, by repeat (first | refine Below.drew ?_ | refine below_draws _ ?_ | (refine Below.setCell ?_ (by first | (simp; done) | (simp; omega) | omega) _) | (refine Below.alloc ?_ (by first | (simp; done) | (simp; omega) | omega) _) | exact HB9.out)⟩
  have HF := ord_of t1 n1 s1 t2 n2 s2 hk1' hk2
  rw [hk2] at HO2
  clear hk2 hk1'
  generalize lessB t1 n1 s1 t2 n2 s2 = l at HL HF
  generalize lessB t2 n2 s2 t1 n1 s1 = m at HM HF
  have HD : Hid (Ord t1 n1 s1 t2 n2 s2 l m) := HF
  clear HF
  rcases eR with ⟨rfl, rfl⟩ | ⟨e0, rfl, rfl, rfl, rfl⟩
  · go_wp2_with fail
    refine (HV.out _ (HT.out.on (by repeat (first | refine Below.drew ?_ | refine below_draws _ ?_ | (refine Below.setCell ?_ (by first | (simp; done) | (simp; omega) | omega) _) | (refine Below.alloc ?_ (by first | (simp; done) | (simp; omega) | omega) _) | exact HB1.out)))).mono ?_
    rintro e w2 ⟨rfl, hb2⟩
    obtain ⟨hc2, hC2, hz2, hZ2⟩ := two hb2 w1.heap.size (by first | omega | (simp; done) | (simp; omega))
    have HB2 : Hid (Below w.heap.size w w2) := by
      refine Below.trans ?_ (hb2.mono (by first | omega | (simp; done) | (simp; omega)))
      repeat (first | refine Below.drew ?_ | refine below_draws _ ?_ | (refine Below.setCell ?_ (by first | (simp; done) | (simp; omega) | omega) _) | (refine Below.alloc ?_ (by first | (simp; done) | (simp; omega) | omega) _) | exact HB1.out)
    clear hb2
    go_wp2_with fail
    refine (HO1.out _).mono ?_
    rintro e w3 ⟨rfl, hb3⟩
    obtain ⟨hc3, hC3, hz3, hZ3⟩ := two hb3 w1.heap.size (by first | omega | (simp; done) | (simp; omega))
    have HB3 : Hid (Below w.heap.size w w3) := by
      refine Below.trans ?_ (hb3.mono (by first | omega | (simp; done) | (simp; omega)))
      repeat (first | refine Below.drew ?_ | refine below_draws _ ?_ | (refine Below.setCell ?_ (by first | (simp; done) | (simp; omega) | omega) _) | (refine Below.alloc ?_ (by first | (simp; done) | (simp; omega) | omega) _) | exact HB2.out)
    clear hb3
    go_wp2_with fail
    refine (textVal_impl _ HZ.out _ (HT.out.on (by repeat (first | refine Below.drew ?_ | refine below_draws _ ?_ | (refine Below.setCell ?_ (by first | (simp; done) | (simp; omega) | omega) _) | (refine Below.alloc ?_ (by first | (simp; done) | (simp; omega) | omega) _) | exact HB3.out))) (HE.out.on (by repeat (first | refine Below.drew ?_ | refine below_draws _ ?_ | (refine Below.setCell ?_ (by first | (simp; done) | (simp; omega) | omega) _) | (refine Below.alloc ?_ (by first | (simp; done) | (simp; omega) | omega) _) | exact HB3.out)))).mono ?_
    rintro e w4 ⟨ty, n, r, b, rfl, htv, hb4⟩
    obtain ⟨rfl, rfl, rfl, rfl⟩ := HTV.out htv
    clear htv HTV HZ
    obtain ⟨hc4, hC4, hz4, hZ4⟩ := two hb4 w1.heap.size (by first | omega | (simp; done) | (simp; omega))
    have HB4 : Hid (Below w.heap.size w w4) := by
      refine Below.trans ?_ (hb4.mono (by first | omega | (simp; done) | (simp; omega)))
      repeat (first | refine Below.drew ?_ | refine below_draws _ ?_ | (refine Below.setCell ?_ (by first | (simp; done) | (simp; omega) | omega) _) | (refine Below.alloc ?_ (by first | (simp; done) | (simp; omega) | omega) _) | exact HB3.out)
    clear hb4
    go_wp2_with fail
    refine (HX _ (HT.out.on (by repeat (first | refine Below.drew ?_ | refine below_draws _ ?_ | (refine Below.setCell ?_ (by first | (simp; done) | (simp; omega) | omega) _) | (refine Below.alloc ?_ (by first | (simp; done) | (simp; omega) | omega) _) | exact HB4.out))) (HE.out.on (by repeat (first | refine Below.drew ?_ | refine below_draws _ ?_ | (refine Below.setCell ?_ (by first | (simp; done) | (simp; omega) | omega) _) | (refine Below.alloc ?_ (by first | (simp; done) | (simp; omega) | omega) _) | exact HB4.out)))).mono ?_
    rintro e w5 ⟨rfl, hb5⟩
    obtain ⟨hc5, hC5, hz5, hZ5⟩ := two hb5 w1.heap.size (by first | omega | (simp; done) | (simp; omega))
    have HB5 : Hid (Below w.heap.size w w5) := by
      refine Below.trans ?_ (hb5.mono (by first | omega | (simp; done) | (simp; omega)))
      repeat (first | refine Below.drew ?_ | refine below_draws _ ?_ | (refine Below.setCell ?_ (by first | (simp; done) | (simp; omega) | omega) _) | (refine Below.alloc ?_ (by first | (simp; done) | (simp; omega) | omega) _) | exact HB4.out)
    clear hb5
    go_wp2_with fail
    refine (HO1.out _).mono ?_
    rintro e w6 ⟨rfl, hb6⟩
    have hd6 := fun o => hb6.cell (p := ⟨w5.heap.size, o, none⟩) (by simp)
    have hy6 : w5.heap.size < w6.heap.size := by have := hb6.size; simp at this; omega
    obtain ⟨hc6, hC6, hz6, hZ6⟩ := two hb6 w1.heap.size (by first | omega | (simp; done) | (simp; omega))
    have HB6 : Hid (Below w.heap.size w w6) := by
      refine Below.trans ?_ (hb6.mono (by first | omega | (simp; done) | (simp; omega)))
      repeat (first | refine Below.drew ?_ | refine below_draws _ ?_ | (refine Below.setCell ?_ (by first | (simp; done) | (simp; omega) | omega) _) | (refine Below.alloc ?_ (by first | (simp; done) | (simp; omega) | omega) _) | exact HB5.out)
    clear hb6
    go_wp2_with fail
    refine (HO1.out _).mono ?_
    rintro e w7 ⟨rfl, hb7⟩
    obtain ⟨hc7, hC7, hz7, hZ7⟩ := two hb7 w1.heap.size (by first | omega | (simp; done) | (simp; omega))
    have HB7 : Hid (Below w.heap.size w w7) := by
      refine Below.trans ?_ (hb7.mono (by first | omega | (simp; done) | (simp; omega)))
      repeat (first | refine Below.drew ?_ | refine below_draws _ ?_ | (refine Below.setCell ?_ (by first | (simp; done) | (simp; omega) | omega) _) | (refine Below.alloc ?_ (by first | (simp; done) | (simp; omega) | omega) _) | exact HB6.out)
    clear hb7
    go_wp2_with fail
    refine (HO2.out _).mono ?_
    rintro e w8 ⟨rfl, hb8⟩
    obtain ⟨hc8, hC8, hz8, hZ8⟩ := two hb8 w1.heap.size (by first | omega | (simp; done) | (simp; omega))
    have HB8 : Hid (Below w.heap.size w w8) := by
      refine Below.trans ?_ (hb8.mono (by first | omega | (simp; done) | (simp; omega)))
      repeat (first | refine Below.drew ?_ | refine below_draws _ ?_ | (refine Below.setCell ?_ (by first | (simp; done) | (simp; omega) | omega) _) | (refine Below.alloc ?_ (by first | (simp; done) | (simp; omega) | omega) _) | exact HB7.out)
    clear hb8
    go_wp2_with fail
    refine (HL.out _).mono ?_
    rintro e w9 ⟨rfl, hb9⟩
    obtain ⟨hc9, hC9, hz9, hZ9⟩ := two hb9 w1.heap.size (by first | omega | (simp; done) | (simp; omega))
    have HB9 : Hid (Below w.heap.size w w9) := by
      refine Below.trans ?_ (hb9.mono (by first | omega | (simp; done) | (simp; omega)))
      repeat (first | refine Below.drew ?_ | refine below_draws _ ?_ | (refine Below.setCell ?_ (by first | (simp; done) | (simp; omega) | omega) _) | (refine Below.alloc ?_ (by first | (simp; done) | (simp; omega) | omega) _) | exact HB8.out)
    clear hb9
    go_wp2_with fail
    refine (HM.out _).mono ?_
    rintro e w10 ⟨rfl, hb10⟩
    obtain ⟨hc10, hC10, hz10, hZ10⟩ := two hb10 w1.heap.size (by first | omega | (simp; done) | (simp; omega))
    have HB10 : Hid (Below w.heap.size w w10) := by
      refine Below.trans ?_ (hb10.mono (by first | omega | (simp; done) | (simp; omega)))
      repeat (first | refine Below.drew ?_ | refine below_draws _ ?_ | (refine Below.setCell ?_ (by first | (simp; done) | (simp; omega) | omega) _) | (refine Below.alloc ?_ (by first | (simp; done) | (simp; omega) | omega) _) | exact HB9.out)
    clear hb10
    rcases HD.out with ⟨d1, rfl⟩ | ⟨d0, d1, rfl⟩ | ⟨d0, d1, d2, rfl⟩ | ⟨d0, d1, d2, rfl, rfl⟩
    · cases m
      all_goals
        go_wp2
        go_ret
        exact ⟨rfl, HB10.out⟩
    · subst d0
      cases m
      all_goals
        go_wp2
        go_ret
        exact ⟨rfl, HB10.out⟩
    · subst d0 d1
      cases m
      all_goals
        go_wp2
        go_ret
        exact ⟨rfl, HB10.out⟩
    · subst d0 d1
      go_wp2
      go_ret
      exact ⟨rfl, HB10.out⟩
  · go_wp2_with fail
    refine (HV.out _ (HT.out.on (by repeat (first | refine Below.drew ?_ | refine below_draws _ ?_ | (refine Below.setCell ?_ (by first | (simp; done) | (simp; omega) | omega) _) | (refine Below.alloc ?_ (by first | (simp; done) | (simp; omega) | omega) _) | exact HB1.out)))).mono ?_
    rintro e w2 ⟨rfl, hb2⟩
    obtain ⟨hc2, hC2, hz2, hZ2⟩ := two hb2 w1.heap.size (by first | omega | (simp; done) | (simp; omega))
    have HB2 : Hid (Below w.heap.size w w2) := by
      refine Below.trans ?_ (hb2.mono (by first | omega | (simp; done) | (simp; omega)))
      repeat (first | refine Below.drew ?_ | refine below_draws _ ?_ | (refine Below.setCell ?_ (by first | (simp; done) | (simp; omega) | omega) _) | (refine Below.alloc ?_ (by first | (simp; done) | (simp; omega) | omega) _) | exact HB1.out)
    clear hb2
    go_wp2_with fail
    refine (HO1.out _).mono ?_
    rintro e w3 ⟨rfl, hb3⟩
    obtain ⟨hc3, hC3, hz3, hZ3⟩ := two hb3 w1.heap.size (by first | omega | (simp; done) | (simp; omega))
    have HB3 : Hid (Below w.heap.size w w3) := by
      refine Below.trans ?_ (hb3.mono (by first | omega | (simp; done) | (simp; omega)))
      repeat (first | refine Below.drew ?_ | refine below_draws _ ?_ | (refine Below.setCell ?_ (by first | (simp; done) | (simp; omega) | omega) _) | (refine Below.alloc ?_ (by first | (simp; done) | (simp; omega) | omega) _) | exact HB2.out)
    clear hb3
    go_wp2_with fail
    refine (textVal_impl _ HZ.out _ (HT.out.on (by repeat (first | refine Below.drew ?_ | refine below_draws _ ?_ | (refine Below.setCell ?_ (by first | (simp; done) | (simp; omega) | omega) _) | (refine Below.alloc ?_ (by first | (simp; done) | (simp; omega) | omega) _) | exact HB3.out))) (HE.out.on (by repeat (first | refine Below.drew ?_ | refine below_draws _ ?_ | (refine Below.setCell ?_ (by first | (simp; done) | (simp; omega) | omega) _) | (refine Below.alloc ?_ (by first | (simp; done) | (simp; omega) | omega) _) | exact HB3.out)))).mono ?_
    rintro e w4 ⟨ty, n, r, b, rfl, htv, hb4⟩
    obtain ⟨rfl, rfl, rfl, rfl⟩ := HTV.out htv
    clear htv HTV HZ
    obtain ⟨hc4, hC4, hz4, hZ4⟩ := two hb4 w1.heap.size (by first | omega | (simp; done) | (simp; omega))
    have HB4 : Hid (Below w.heap.size w w4) := by
      refine Below.trans ?_ (hb4.mono (by first | omega | (simp; done) | (simp; omega)))
      repeat (first | refine Below.drew ?_ | refine below_draws _ ?_ | (refine Below.setCell ?_ (by first | (simp; done) | (simp; omega) | omega) _) | (refine Below.alloc ?_ (by first | (simp; done) | (simp; omega) | omega) _) | exact HB3.out)
    clear hb4
    go_wp2_with fail
    refine (HX _ (HT.out.on (by repeat (first | refine Below.drew ?_ | refine below_draws _ ?_ | (refine Below.setCell ?_ (by first | (simp; done) | (simp; omega) | omega) _) | (refine Below.alloc ?_ (by first | (simp; done) | (simp; omega) | omega) _) | exact HB4.out))) (HE.out.on (by repeat (first | refine Below.drew ?_ | refine below_draws _ ?_ | (refine Below.setCell ?_ (by first | (simp; done) | (simp; omega) | omega) _) | (refine Below.alloc ?_ (by first | (simp; done) | (simp; omega) | omega) _) | exact HB4.out)))).mono ?_
    rintro e w5 ⟨rfl, hb5⟩
    obtain ⟨hc5, hC5, hz5, hZ5⟩ := two hb5 w1.heap.size (by first | omega | (simp; done) | (simp; omega))
    have HB5 : Hid (Below w.heap.size w w5) := by
      refine Below.trans ?_ (hb5.mono (by first | omega | (simp; done) | (simp; omega)))
      repeat (first | refine Below.drew ?_ | refine below_draws _ ?_ | (refine Below.setCell ?_ (by first | (simp; done) | (simp; omega) | omega) _) | (refine Below.alloc ?_ (by first | (simp; done) | (simp; omega) | omega) _) | exact HB4.out)
    clear hb5
    go_wp2_with fail
    refine (HO1.out _).mono ?_
    rintro e w6 ⟨rfl, hb6⟩
    have hd6 := fun o => hb6.cell (p := ⟨w5.heap.size, o, none⟩) (by simp)
    have hy6 : w5.heap.size < w6.heap.size := by have := hb6.size; simp at this; omega
    obtain ⟨hc6, hC6, hz6, hZ6⟩ := two hb6 w1.heap.size (by first | omega | (simp; done) | (simp; omega))
    have HB6 : Hid (Below w.heap.size w w6) := by
      refine Below.trans ?_ (hb6.mono (by first | omega | (simp; done) | (simp; omega)))
      repeat (first | refine Below.drew ?_ | refine below_draws _ ?_ | (refine Below.setCell ?_ (by first | (simp; done) | (simp; omega) | omega) _) | (refine Below.alloc ?_ (by first | (simp; done) | (simp; omega) | omega) _) | exact HB5.out)
    clear hb6
    go_wp2_with fail
    refine (HO1.out _).mono ?_
    rintro e w7 ⟨rfl, hb7⟩
    obtain ⟨hc7, hC7, hz7, hZ7⟩ := two hb7 w1.heap.size (by first | omega | (simp; done) | (simp; omega))
    have HB7 : Hid (Below w.heap.size w w7) := by
      refine Below.trans ?_ (hb7.mono (by first | omega | (simp; done) | (simp; omega)))
      repeat (first | refine Below.drew ?_ | refine below_draws _ ?_ | (refine Below.setCell ?_ (by first | (simp; done) | (simp; omega) | omega) _) | (refine Below.alloc ?_ (by first | (simp; done) | (simp; omega) | omega) _) | exact HB6.out)
    clear hb7
    go_wp2_with fail
    refine (HO2.out _).mono ?_
    rintro e w8 ⟨rfl, hb8⟩
    obtain ⟨hc8, hC8, hz8, hZ8⟩ := two hb8 w1.heap.size (by first | omega | (simp; done) | (simp; omega))
    have HB8 : Hid (Below w.heap.size w w8) := by
      refine Below.trans ?_ (hb8.mono (by first | omega | (simp; done) | (simp; omega)))
      repeat (first | refine Below.drew ?_ | refine below_draws _ ?_ | (refine Below.setCell ?_ (by first | (simp; done) | (simp; omega) | omega) _) | (refine Below.alloc ?_ (by first | (simp; done) | (simp; omega) | omega) _) | exact HB7.out)
    clear hb8
    go_wp2_with fail
    refine (HL.out _).mono ?_
    rintro e w9 ⟨rfl, hb9⟩
    obtain ⟨hc9, hC9, hz9, hZ9⟩ := two hb9 w1.heap.size (by first | omega | (simp; done) | (simp; omega))
    have HB9 : Hid (Below w.heap.size w w9) := by
      refine Below.trans ?_ (hb9.mono (by first | omega | (simp; done) | (simp; omega)))
      repeat (first | refine Below.drew ?_ | refine below_draws _ ?_ | (refine Below.setCell ?_ (by first | (simp; done) | (simp; omega) | omega) _) | (refine Below.alloc ?_ (by first | (simp; done) | (simp; omega) | omega) _) | exact HB8.out)
    clear hb9
    go_wp2_with fail
    refine (HM.out _).mono ?_
    rintro e w10 ⟨rfl, hb10⟩
    obtain ⟨hc10, hC10, hz10, hZ10⟩ := two hb10 w1.heap.size (by first | omega | (simp; done) | (simp; omega))
    have HB10 : Hid (Below w.heap.size w w10) := by
      refine Below.trans ?_ (hb10.mono (by first | omega | (simp; done) | (simp; omega)))
      repeat (first | refine Below.drew ?_ | refine below_draws _ ?_ | (refine Below.setCell ?_ (by first | (simp; done) | (simp; omega) | omega) _) | (refine Below.alloc ?_ (by first | (simp; done) | (simp; omega) | omega) _) | exact HB9.out)
    clear hb10
    rcases HD.out with ⟨d1, rfl⟩ | ⟨d0, d1, rfl⟩ | ⟨d0, d1, d2, rfl⟩ | ⟨d0, d1, d2, rfl, rfl⟩
    · cases m
      all_goals
        go_wp2
        go_ret
        exact ⟨rfl, HB10.out⟩
    · subst d0
      cases m
      all_goals
        go_wp2
        go_ret
        exact ⟨rfl, HB10.out⟩
    · subst d0 d1
      cases m
      all_goals
        go_wp2
        go_ret
        exact ⟨rfl, HB10.out⟩
    · subst d0 d1
      go_wp2
      go_ret
      exact ⟨rfl, HB10.out⟩
end Go.Proofs.YtmgoplamocgfladDoor.lawFnVal
