/- The given reader of bytes: a value. -/
import Derived.Test.YtihilcffmdjhhaoRs2
namespace Go.Proofs.Ytihilcffmdjhhao
open Go.ChangeShapes Go.WideShapes Go.ChangeAt Go.RowKit

theorem sd_stores {w w1 w2 : World} {R q : Nat} {E : List UInt8} (hd : SdB w2 R E q) (ht : Turns (· = R) w w2) (hR : R < w.heap.size) (hs : w.heap.size < w1.heap.size) (i : Nat) (v v0 v1 v2 : Value) :
    SdB ((((w2.setCell ⟨w1.heap.size, i, none⟩ v).setCell ⟨w.heap.size, 0, none⟩ v0).setCell ⟨w.heap.size, 1, none⟩ v1).setCell ⟨w.heap.size, 2, none⟩ v2) R E q ∧ Turns (· = R) w ((((w2.setCell ⟨w1.heap.size, i, none⟩ v).setCell ⟨w.heap.size, 0, none⟩ v0).setCell ⟨w.heap.size, 1, none⟩ v1).setCell ⟨w.heap.size, 2, none⟩ v2) :=
  ⟨(((hd.other (a := ⟨w1.heap.size, i, none⟩) (Nat.lt_trans hR hs) v).other (a := ⟨w.heap.size, 0, none⟩) hR v0).other (a := ⟨w.heap.size, 1, none⟩) hR v1).other (a := ⟨w.heap.size, 2, none⟩) hR v2,
   (((ht.fresh (p := ⟨w1.heap.size, i, none⟩) (Nat.le_of_lt hs) v).fresh (p := ⟨w.heap.size, 0, none⟩) (Nat.le_refl _) v0).fresh (p := ⟨w.heap.size, 1, none⟩) (Nat.le_refl _) v1).fresh (p := ⟨w.heap.size, 2, none⟩) (Nat.le_refl _) v2⟩
theorem sd_stores3 {w w2 : World} {R q : Nat} {E : List UInt8} (hd : SdB w2 R E q) (ht : Turns (· = R) w w2) (hR : R < w.heap.size) (v0 v1 v2 : Value) :
    SdB (((w2.setCell ⟨w.heap.size, 0, none⟩ v0).setCell ⟨w.heap.size, 1, none⟩ v1).setCell ⟨w.heap.size, 2, none⟩ v2) R E q ∧ Turns (· = R) w (((w2.setCell ⟨w.heap.size, 0, none⟩ v0).setCell ⟨w.heap.size, 1, none⟩ v1).setCell ⟨w.heap.size, 2, none⟩ v2) :=
  ⟨((hd.other (a := ⟨w.heap.size, 0, none⟩) hR v0).other (a := ⟨w.heap.size, 1, none⟩) hR v1).other (a := ⟨w.heap.size, 2, none⟩) hR v2,
   ((ht.fresh (p := ⟨w.heap.size, 0, none⟩) (Nat.le_refl _) v0).fresh (p := ⟨w.heap.size, 1, none⟩) (Nat.le_refl _) v1).fresh (p := ⟨w.heap.size, 2, none⟩) (Nat.le_refl _) v2⟩
set_option maxRecDepth 100000 in
set_option maxHeartbeats 1000000 in
/-- spec.l06Val -/
theorem l06Val_any (R p : Nat) (l : List UInt8) (w : World) (h : SdB w R l p) (hp : p ≤ 900000000) (hl : l.length ≤ 1048576) :
    Calls Try.prog 92 #[.pointer (some ⟨R, 0, none⟩)] w fun e w' => e = .returned (.agg (spV l p).1.cells) ∧ SdB w' R l (spV l p).2 ∧ Turns (· = R) w w' := by
  have HN : Hid (∀ u : World, SdB u R l p → Calls Try.prog 53 #[.pointer (some ⟨R, 0, none⟩), .int .i64 1] u fun e w' => e = .returned (.int .i64 (rdN 1 (l.drop p) : Int)) ∧ SdB w' R l (p + 1) ∧ Turns (· = R) u w') := fun u hu => l06Take_any R 1 p l u hu (by omega) (by omega) (by omega)
  have HR : Hid (SdB w R l p) := h
  have hRw : R < w.heap.size := by obtain ⟨_, _, _, ho, _⟩ := h; exact ho.lt
  have HN2 : Hid (∀ u : World, SdB u R l (p + 1) → Calls Try.prog 53 #[.pointer (some ⟨R, 0, none⟩), .int .i64 1] u fun e w' => e = .returned (.int .i64 (rdN 1 (l.drop (p + 1)) : Int)) ∧ SdB w' R l (p + 1 + 1) ∧ Turns (· = R) u w') := fun u hu => l06Take_any R 1 (p + 1) l u hu (by omega) (by omega) (by omega)
  have HS : Hid (∀ u : World, SdB u R l (p + 1 + 1) → Calls Try.prog 53 #[.pointer (some ⟨R, 0, none⟩), .int .i64 6] u fun e w' => e = .returned (.int .i64 (rdN 6 (l.drop (p + 1 + 1)) : Int)) ∧ SdB w' R l (p + 1 + 1 + 6) ∧ Turns (· = R) u w') := fun u hu => l06Take_any R 6 (p + 1 + 1) l u hu (by omega) (by omega) (by omega)
  have HX : Hid (∀ u : World, SdB u R l (p + 1 + 1) → Calls Try.prog 54 #[.pointer (some ⟨R, 0, none⟩), .int .i64 (rdN 1 (l.drop (p + 1)) : Int)] u fun e w' => e = .returned (.string (spT (rdN 1 (l.drop (p + 1))) l (p + 1 + 1)).1) ∧ SdB w' R l (spT (rdN 1 (l.drop (p + 1))) l (p + 1 + 1)).2 ∧ Turns (· = R) u w') := fun u hu => l06Text_any R _ (p + 1 + 1) l u hu (by have := rdN_byte (l.drop (p + 1)); omega) (by omega) hl
  have hlt := rdN_lt 6 (l.drop (p + 1 + 1)) (by omega)
  clear h
  by_cases h1 : rdN 1 (l.drop p) = 1
  · have e : spV l p = (⟨1, (rdN 1 (l.drop (p + 1)) : Int), ⟨#[]⟩⟩, p + 1 + 1) := by unfold spV; rw [if_pos h1]
    rw [e]
    rw [h1] at HN
    simp only
    clear HS HX h1 e
    generalize rdN 1 (l.drop (p + 1)) = M at HN2 ⊢
    go_enter Try.func92, Try.ntmps92
    go_wp2_with fail
    refine (HN.out _ (HR.out.on (by repeat (first | with_reducible exact Below.refl _ _ | with_reducible assumption | with_reducible refine ch_alloc ?_ _ | with_reducible refine Below.drew ?_ | with_reducible refine below_draws _ ?_ | (with_reducible refine Below.setCell ?_ ?_ _; rotate_left; focus (first | with_reducible exact Nat.le_refl _ | (simp; done) | (simp; omega) | (simp at *; omega))) | with_reducible refine ch_trans ?_ (by with_reducible assumption))))).mono ?_
    rintro e w1 ⟨rfl, hd, ht⟩
    have HD : Hid (SdB w1 R l (p + 1)) := hd
    have HO1 : Own w1 w.heap.size 104 #[.int .i64 0, .int .i64 0, .string { data := #[] }] := (Own.new _ _ _).turned ht (by show ¬ (w.heap.size = R); omega)
    have hs1 : w.heap.size < w1.heap.size := HO1.lt
    have HT : Hid (Turns (· = R) w w1) := ((Turns.refl (· = R) w).below (ch_alloc (Below.refl _ _) _)).trans ht
    clear hd ht
    go_wp2_with fail
    refine (HN2.out _ (HD.out.on (by repeat (first | with_reducible exact Below.refl _ _ | with_reducible assumption | with_reducible refine ch_alloc ?_ _ | with_reducible refine Below.drew ?_ | with_reducible refine below_draws _ ?_ | (with_reducible refine Below.setCell ?_ ?_ _; rotate_left; focus (first | with_reducible exact Nat.le_refl _ | (simp; done) | (simp; omega) | (simp at *; omega))) | with_reducible refine ch_trans ?_ (by with_reducible assumption))))).mono ?_
    rintro e w2 ⟨rfl, hd, ht⟩
    have HO2 : Own w2 w.heap.size 104 #[.int .i64 0, .int .i64 0, .string { data := #[] }] := (HO1.on (ch_alloc (Below.refl _ _) _)).turned ht (by show ¬ (w.heap.size = R); omega)
    have HV2 : Own w2 w1.heap.size 104 #[.int .i64 1, .int .i64 0, .string { data := #[] }] := (Own.new _ _ _).turned ht (by show ¬ (w1.heap.size = R); omega)
    have hs2 : w1.heap.size < w2.heap.size := HV2.lt
    have HD2 : Hid (SdB w2 R l (p + 1 + 1)) := hd
    have HT2 : Hid (Turns (· = R) w w2) := (HT.out.below (ch_alloc (Below.refl _ _) _)).trans ht
    clear hd ht
    obtain ⟨c0, c1, c2⟩ := HV2.loc.three
    obtain ⟨d0, d1, d2⟩ := HO2.loc.three
    have f0 := HV2.frozen 1
    have k0 := HO2.frozen 0
    have k1 := HO2.frozen 1
    have k2 := HO2.frozen 2
    go_wp2
    have HO3 : Own _ w.heap.size 104 #[.int .i64 1, .int .i64 (M : Int), .string { data := #[] }] := own3 (HO2.other (p := ⟨w1.heap.size, 1, none⟩) (by simp; omega) (.int .i64 (M : Int))) (.int .i64 1) (.int .i64 (M : Int)) (.string { data := #[] })
    have HB3 : Hid (Below w2.heap.size w2 w2) := Below.refl _ _
    have HE3 : Hid (∀ W : World, W = (((w2.setCell ⟨w1.heap.size, 1, none⟩ (.int .i64 (M : Int))).setCell ⟨w.heap.size, 0, none⟩ (.int .i64 1)).setCell ⟨w.heap.size, 1, none⟩ (.int .i64 (M : Int))).setCell ⟨w.heap.size, 2, none⟩ (.string { data := #[] }) → SdB W R l (p + 1 + 1) ∧ Turns (· = R) w W) := fun W hW => by
      subst hW
      exact sd_stores HD2.out HT2.out hRw hs1 _ _ _ _ _
    generalize hW : (((w2.setCell ⟨w1.heap.size, 1, none⟩ (.int .i64 (M : Int))).setCell ⟨w.heap.size, 0, none⟩ (.int .i64 1)).setCell ⟨w.heap.size, 1, none⟩ (.int .i64 (M : Int))).setCell ⟨w.heap.size, 2, none⟩ (.string { data := #[] }) = W at HO3 ⊢
    obtain ⟨hA, hB⟩ := HE3.out W hW.symm
    obtain ⟨e0, e1, e2⟩ := HO3.loc.three
    exact bodyPost_ret (v := .agg #[.int .i64 1, .int .i64 (M : Int), .string { data := #[] }]) (by simp [results, Try.results92, go_sem, e0, e1, e2]) rfl ⟨rfl, hA, hB⟩
  by_cases h2 : rdN 1 (l.drop p) = 2
  · by_cases hsg : rdN 1 (l.drop (p + 1)) = 1
    · have e : spV l p = (⟨2, -(rdN 6 (l.drop (p + 1 + 1)) : Int), ⟨#[]⟩⟩, p + 1 + 1 + 6) := by unfold spV; rw [if_neg h1, if_pos h2, if_pos hsg]
      rw [e]
      rw [h2] at HN
      simp only
      rw [hsg] at HN2
      clear HX h1 h2 e hsg
      generalize rdN 6 (l.drop (p + 1 + 1)) = M at HS hlt ⊢
      go_enter Try.func92, Try.ntmps92
      go_wp2_with fail
      refine (HN.out _ (HR.out.on (by repeat (first | with_reducible exact Below.refl _ _ | with_reducible assumption | with_reducible refine ch_alloc ?_ _ | with_reducible refine Below.drew ?_ | with_reducible refine below_draws _ ?_ | (with_reducible refine Below.setCell ?_ ?_ _; rotate_left; focus (first | with_reducible exact Nat.le_refl _ | (simp; done) | (simp; omega) | (simp at *; omega))) | with_reducible refine ch_trans ?_ (by with_reducible assumption))))).mono ?_
      rintro e w1 ⟨rfl, hd, ht⟩
      have HD : Hid (SdB w1 R l (p + 1)) := hd
      have HO1 : Own w1 w.heap.size 104 #[.int .i64 0, .int .i64 0, .string { data := #[] }] := (Own.new _ _ _).turned ht (by show ¬ (w.heap.size = R); omega)
      have hs1 : w.heap.size < w1.heap.size := HO1.lt
      have HT : Hid (Turns (· = R) w w1) := ((Turns.refl (· = R) w).below (ch_alloc (Below.refl _ _) _)).trans ht
      clear hd ht
      go_wp2_with fail
      refine (HN2.out _ (HD.out.on (by repeat (first | with_reducible exact Below.refl _ _ | with_reducible assumption | with_reducible refine ch_alloc ?_ _ | with_reducible refine Below.drew ?_ | with_reducible refine below_draws _ ?_ | (with_reducible refine Below.setCell ?_ ?_ _; rotate_left; focus (first | with_reducible exact Nat.le_refl _ | (simp; done) | (simp; omega) | (simp at *; omega))) | with_reducible refine ch_trans ?_ (by with_reducible assumption))))).mono ?_
      rintro e w2 ⟨rfl, hd, ht⟩
      have HO2 : Own w2 w.heap.size 104 #[.int .i64 0, .int .i64 0, .string { data := #[] }] := (HO1.on (ch_alloc (Below.refl _ _) _)).turned ht (by show ¬ (w.heap.size = R); omega)
      have HV2 : Own w2 w1.heap.size 104 #[.int .i64 2, .int .i64 0, .string { data := #[] }] := (Own.new _ _ _).turned ht (by show ¬ (w1.heap.size = R); omega)
      have hs2 : w1.heap.size < w2.heap.size := HV2.lt
      have HD2 : Hid (SdB w2 R l (p + 1 + 1)) := hd
      have HT2 : Hid (Turns (· = R) w w2) := (HT.out.below (ch_alloc (Below.refl _ _) _)).trans ht
      clear hd ht
      go_wp2_with fail
      refine (HS.out _ HD2.out).mono ?_
      rintro e w3 ⟨rfl, hd, ht⟩
      have HO3' : Own w3 w.heap.size 104 #[.int .i64 0, .int .i64 0, .string { data := #[] }] := HO2.turned ht (by show ¬ (w.heap.size = R); omega)
      have HV3 : Own w3 w1.heap.size 104 #[.int .i64 2, .int .i64 0, .string { data := #[] }] := HV2.turned ht (by show ¬ (w1.heap.size = R); omega)
      have HD3 : Hid (SdB w3 R l (p + 1 + 1 + 6)) := hd
      have HT3 : Hid (Turns (· = R) w w3) := HT2.out.trans ht
      clear hd ht
      obtain ⟨c0, c1, c2⟩ := HV3.loc.three
      obtain ⟨d0, d1, d2⟩ := HO3'.loc.three
      have f0 := HV3.frozen 1
      have k0 := HO3'.frozen 0
      have k1 := HO3'.frozen 1
      have k2 := HO3'.frozen 2
      go_wp2
      have HO3 : Own _ w.heap.size 104 #[.int .i64 2, .int .i64 (-(M : Int)), .string { data := #[] }] := own3 ((HO3'.other (p := ⟨w1.heap.size, 1, none⟩) (by simp; omega) (.int .i64 (M : Int))).other (p := ⟨w1.heap.size, 1, none⟩) (by simp; omega) (.int .i64 (-(M : Int)))) (.int .i64 2) (.int .i64 (-(M : Int))) (.string { data := #[] })
      have HB3 : Hid (Below w3.heap.size w3 w3) := Below.refl _ _
      have HE3 : Hid (∀ W : World, W = ((((w3.setCell ⟨w1.heap.size, 1, none⟩ (.int .i64 (M : Int))).setCell ⟨w1.heap.size, 1, none⟩ (.int .i64 (-(M : Int)))).setCell ⟨w.heap.size, 0, none⟩ (.int .i64 2)).setCell ⟨w.heap.size, 1, none⟩ (.int .i64 (-(M : Int)))).setCell ⟨w.heap.size, 2, none⟩ (.string { data := #[] }) → SdB W R l (p + 1 + 1 + 6) ∧ Turns (· = R) w W) := fun W hW => by
        subst hW
        exact sd_stores (HD3.out.other (a := ⟨w1.heap.size, 1, none⟩) (Nat.lt_trans hRw hs1) (.int .i64 (M : Int))) (HT3.out.fresh (p := ⟨w1.heap.size, 1, none⟩) (Nat.le_of_lt hs1) (.int .i64 (M : Int))) hRw hs1 _ _ _ _ _
      generalize hW : ((((w3.setCell ⟨w1.heap.size, 1, none⟩ (.int .i64 (M : Int))).setCell ⟨w1.heap.size, 1, none⟩ (.int .i64 (-(M : Int)))).setCell ⟨w.heap.size, 0, none⟩ (.int .i64 2)).setCell ⟨w.heap.size, 1, none⟩ (.int .i64 (-(M : Int)))).setCell ⟨w.heap.size, 2, none⟩ (.string { data := #[] }) = W at HO3 ⊢
      obtain ⟨hA, hB⟩ := HE3.out W hW.symm
      obtain ⟨e0, e1, e2⟩ := HO3.loc.three
      exact bodyPost_ret (v := .agg #[.int .i64 2, .int .i64 (-(M : Int)), .string { data := #[] }]) (by simp [results, Try.results92, go_sem, e0, e1, e2]) rfl ⟨rfl, hA, hB⟩
    · have e : spV l p = (⟨2, (rdN 6 (l.drop (p + 1 + 1)) : Int), ⟨#[]⟩⟩, p + 1 + 1 + 6) := by unfold spV; rw [if_neg h1, if_pos h2, if_neg hsg]
      rw [e]
      rw [h2] at HN
      have hsg' : (((rdN 1 (l.drop (p + 1)) : Nat) : Int) == 1) = false := by simp; omega
      simp only
      clear HX h1 h2 e hsg
      generalize rdN 6 (l.drop (p + 1 + 1)) = M at HS hlt ⊢
      generalize rdN 1 (l.drop (p + 1)) = M1 at HN2 hsg'
      go_enter Try.func92, Try.ntmps92
      go_wp2_with fail
      refine (HN.out _ (HR.out.on (by repeat (first | with_reducible exact Below.refl _ _ | with_reducible assumption | with_reducible refine ch_alloc ?_ _ | with_reducible refine Below.drew ?_ | with_reducible refine below_draws _ ?_ | (with_reducible refine Below.setCell ?_ ?_ _; rotate_left; focus (first | with_reducible exact Nat.le_refl _ | (simp; done) | (simp; omega) | (simp at *; omega))) | with_reducible refine ch_trans ?_ (by with_reducible assumption))))).mono ?_
      rintro e w1 ⟨rfl, hd, ht⟩
      have HD : Hid (SdB w1 R l (p + 1)) := hd
      have HO1 : Own w1 w.heap.size 104 #[.int .i64 0, .int .i64 0, .string { data := #[] }] := (Own.new _ _ _).turned ht (by show ¬ (w.heap.size = R); omega)
      have hs1 : w.heap.size < w1.heap.size := HO1.lt
      have HT : Hid (Turns (· = R) w w1) := ((Turns.refl (· = R) w).below (ch_alloc (Below.refl _ _) _)).trans ht
      clear hd ht
      go_wp2_with fail
      refine (HN2.out _ (HD.out.on (by repeat (first | with_reducible exact Below.refl _ _ | with_reducible assumption | with_reducible refine ch_alloc ?_ _ | with_reducible refine Below.drew ?_ | with_reducible refine below_draws _ ?_ | (with_reducible refine Below.setCell ?_ ?_ _; rotate_left; focus (first | with_reducible exact Nat.le_refl _ | (simp; done) | (simp; omega) | (simp at *; omega))) | with_reducible refine ch_trans ?_ (by with_reducible assumption))))).mono ?_
      rintro e w2 ⟨rfl, hd, ht⟩
      have HO2 : Own w2 w.heap.size 104 #[.int .i64 0, .int .i64 0, .string { data := #[] }] := (HO1.on (ch_alloc (Below.refl _ _) _)).turned ht (by show ¬ (w.heap.size = R); omega)
      have HV2 : Own w2 w1.heap.size 104 #[.int .i64 2, .int .i64 0, .string { data := #[] }] := (Own.new _ _ _).turned ht (by show ¬ (w1.heap.size = R); omega)
      have hs2 : w1.heap.size < w2.heap.size := HV2.lt
      have HD2 : Hid (SdB w2 R l (p + 1 + 1)) := hd
      have HT2 : Hid (Turns (· = R) w w2) := (HT.out.below (ch_alloc (Below.refl _ _) _)).trans ht
      clear hd ht
      go_wp2_with fail
      refine (HS.out _ HD2.out).mono ?_
      rintro e w3 ⟨rfl, hd, ht⟩
      have HO3' : Own w3 w.heap.size 104 #[.int .i64 0, .int .i64 0, .string { data := #[] }] := HO2.turned ht (by show ¬ (w.heap.size = R); omega)
      have HV3 : Own w3 w1.heap.size 104 #[.int .i64 2, .int .i64 0, .string { data := #[] }] := HV2.turned ht (by show ¬ (w1.heap.size = R); omega)
      have HD3 : Hid (SdB w3 R l (p + 1 + 1 + 6)) := hd
      have HT3 : Hid (Turns (· = R) w w3) := HT2.out.trans ht
      clear hd ht
      obtain ⟨c0, c1, c2⟩ := HV3.loc.three
      obtain ⟨d0, d1, d2⟩ := HO3'.loc.three
      have f0 := HV3.frozen 1
      have k0 := HO3'.frozen 0
      have k1 := HO3'.frozen 1
      have k2 := HO3'.frozen 2
      go_wp2
      have HO3 : Own _ w.heap.size 104 #[.int .i64 2, .int .i64 (M : Int), .string { data := #[] }] := own3 (HO3'.other (p := ⟨w1.heap.size, 1, none⟩) (by simp; omega) (.int .i64 (M : Int))) (.int .i64 2) (.int .i64 (M : Int)) (.string { data := #[] })
      have HB3 : Hid (Below w3.heap.size w3 w3) := Below.refl _ _
      have HE3 : Hid (∀ W : World, W = (((w3.setCell ⟨w1.heap.size, 1, none⟩ (.int .i64 (M : Int))).setCell ⟨w.heap.size, 0, none⟩ (.int .i64 2)).setCell ⟨w.heap.size, 1, none⟩ (.int .i64 (M : Int))).setCell ⟨w.heap.size, 2, none⟩ (.string { data := #[] }) → SdB W R l (p + 1 + 1 + 6) ∧ Turns (· = R) w W) := fun W hW => by
        subst hW
        exact sd_stores HD3.out HT3.out hRw hs1 _ _ _ _ _
      generalize hW : (((w3.setCell ⟨w1.heap.size, 1, none⟩ (.int .i64 (M : Int))).setCell ⟨w.heap.size, 0, none⟩ (.int .i64 2)).setCell ⟨w.heap.size, 1, none⟩ (.int .i64 (M : Int))).setCell ⟨w.heap.size, 2, none⟩ (.string { data := #[] }) = W at HO3 ⊢
      obtain ⟨hA, hB⟩ := HE3.out W hW.symm
      obtain ⟨e0, e1, e2⟩ := HO3.loc.three
      exact bodyPost_ret (v := .agg #[.int .i64 2, .int .i64 (M : Int), .string { data := #[] }]) (by simp [results, Try.results92, go_sem, e0, e1, e2]) rfl ⟨rfl, hA, hB⟩
  by_cases h3 : rdN 1 (l.drop p) = 3
  · have e : spV l p = (⟨3, 0, (spT (rdN 1 (l.drop (p + 1))) l (p + 1 + 1)).1⟩, (spT (rdN 1 (l.drop (p + 1))) l (p + 1 + 1)).2) := by unfold spV; rw [if_neg h1, if_neg h2, if_pos h3]
    rw [e]
    rw [h3] at HN
    simp only
    clear HS h1 h2 h3 e
    generalize (spT (rdN 1 (l.drop (p + 1))) l (p + 1 + 1)).2 = P2 at HX ⊢
    generalize (spT (rdN 1 (l.drop (p + 1))) l (p + 1 + 1)).1 = X at HX ⊢
    generalize rdN 1 (l.drop (p + 1)) = M at HN2 HX
    go_enter Try.func92, Try.ntmps92
    go_wp2_with fail
    refine (HN.out _ (HR.out.on (by repeat (first | with_reducible exact Below.refl _ _ | with_reducible assumption | with_reducible refine ch_alloc ?_ _ | with_reducible refine Below.drew ?_ | with_reducible refine below_draws _ ?_ | (with_reducible refine Below.setCell ?_ ?_ _; rotate_left; focus (first | with_reducible exact Nat.le_refl _ | (simp; done) | (simp; omega) | (simp at *; omega))) | with_reducible refine ch_trans ?_ (by with_reducible assumption))))).mono ?_
    rintro e w1 ⟨rfl, hd, ht⟩
    have HD : Hid (SdB w1 R l (p + 1)) := hd
    have HO1 : Own w1 w.heap.size 104 #[.int .i64 0, .int .i64 0, .string { data := #[] }] := (Own.new _ _ _).turned ht (by show ¬ (w.heap.size = R); omega)
    have hs1 : w.heap.size < w1.heap.size := HO1.lt
    have HT : Hid (Turns (· = R) w w1) := ((Turns.refl (· = R) w).below (ch_alloc (Below.refl _ _) _)).trans ht
    clear hd ht
    go_wp2_with fail
    refine (HN2.out _ (HD.out.on (by repeat (first | with_reducible exact Below.refl _ _ | with_reducible assumption | with_reducible refine ch_alloc ?_ _ | with_reducible refine Below.drew ?_ | with_reducible refine below_draws _ ?_ | (with_reducible refine Below.setCell ?_ ?_ _; rotate_left; focus (first | with_reducible exact Nat.le_refl _ | (simp; done) | (simp; omega) | (simp at *; omega))) | with_reducible refine ch_trans ?_ (by with_reducible assumption))))).mono ?_
    rintro e w2 ⟨rfl, hd, ht⟩
    have HO2 : Own w2 w.heap.size 104 #[.int .i64 0, .int .i64 0, .string { data := #[] }] := (HO1.on (ch_alloc (Below.refl _ _) _)).turned ht (by show ¬ (w.heap.size = R); omega)
    have HV2 : Own w2 w1.heap.size 104 #[.int .i64 3, .int .i64 0, .string { data := #[] }] := (Own.new _ _ _).turned ht (by show ¬ (w1.heap.size = R); omega)
    have hs2 : w1.heap.size < w2.heap.size := HV2.lt
    have HD2 : Hid (SdB w2 R l (p + 1 + 1)) := hd
    have HT2 : Hid (Turns (· = R) w w2) := (HT.out.below (ch_alloc (Below.refl _ _) _)).trans ht
    clear hd ht
    go_wp2_with fail
    refine (HX.out _ HD2.out).mono ?_
    rintro e w3 ⟨rfl, hd, ht⟩
    have HO3' : Own w3 w.heap.size 104 #[.int .i64 0, .int .i64 0, .string { data := #[] }] := HO2.turned ht (by show ¬ (w.heap.size = R); omega)
    have HV3 : Own w3 w1.heap.size 104 #[.int .i64 3, .int .i64 0, .string { data := #[] }] := HV2.turned ht (by show ¬ (w1.heap.size = R); omega)
    have HD3 : Hid (SdB w3 R l (P2)) := hd
    have HT3 : Hid (Turns (· = R) w w3) := HT2.out.trans ht
    clear hd ht
    obtain ⟨c0, c1, c2⟩ := HV3.loc.three
    obtain ⟨d0, d1, d2⟩ := HO3'.loc.three
    have f0 := HV3.frozen 2
    have k0 := HO3'.frozen 0
    have k1 := HO3'.frozen 1
    have k2 := HO3'.frozen 2
    go_wp2
    have HO3 : Own _ w.heap.size 104 #[.int .i64 3, .int .i64 0, .string X] := own3 (HO3'.other (p := ⟨w1.heap.size, 2, none⟩) (by simp; omega) (.string X)) (.int .i64 3) (.int .i64 0) (.string X)
    have HB3 : Hid (Below w3.heap.size w3 w3) := Below.refl _ _
    have HE3 : Hid (∀ W : World, W = (((w3.setCell ⟨w1.heap.size, 2, none⟩ (.string X)).setCell ⟨w.heap.size, 0, none⟩ (.int .i64 3)).setCell ⟨w.heap.size, 1, none⟩ (.int .i64 0)).setCell ⟨w.heap.size, 2, none⟩ (.string X) → SdB W R l (P2) ∧ Turns (· = R) w W) := fun W hW => by
      subst hW
      exact sd_stores HD3.out HT3.out hRw hs1 _ _ _ _ _
    generalize hW : (((w3.setCell ⟨w1.heap.size, 2, none⟩ (.string X)).setCell ⟨w.heap.size, 0, none⟩ (.int .i64 3)).setCell ⟨w.heap.size, 1, none⟩ (.int .i64 0)).setCell ⟨w.heap.size, 2, none⟩ (.string X) = W at HO3 ⊢
    obtain ⟨hA, hB⟩ := HE3.out W hW.symm
    obtain ⟨e0, e1, e2⟩ := HO3.loc.three
    exact bodyPost_ret (v := .agg #[.int .i64 3, .int .i64 0, .string X]) (by simp [results, Try.results92, go_sem, e0, e1, e2]) rfl ⟨rfl, hA, hB⟩
  have e : spV l p = (⟨(rdN 1 (l.drop p) : Int), 0, ⟨#[]⟩⟩, p + 1) := by unfold spV; rw [if_neg h1, if_neg h2, if_neg h3]
  rw [e]
  simp only
  clear HN2 HS HX e
  generalize rdN 1 (l.drop p) = N at HN h1 h2 h3 ⊢
  have n1 : ((N : Int) == 1) = false := by simp; omega
  have n2 : ((N : Int) == 2) = false := by simp; omega
  have n3 : ((N : Int) == 3) = false := by simp; omega
  clear h1 h2 h3
  go_enter Try.func92, Try.ntmps92
  go_wp2_with fail
  refine (HN.out _ (HR.out.on (by repeat (first | with_reducible exact Below.refl _ _ | with_reducible assumption | with_reducible refine ch_alloc ?_ _ | with_reducible refine Below.drew ?_ | with_reducible refine below_draws _ ?_ | (with_reducible refine Below.setCell ?_ ?_ _; rotate_left; focus (first | with_reducible exact Nat.le_refl _ | (simp; done) | (simp; omega) | (simp at *; omega))) | with_reducible refine ch_trans ?_ (by with_reducible assumption))))).mono ?_
  rintro e w1 ⟨rfl, hd, ht⟩
  have HD : Hid (SdB w1 R l (p + 1)) := hd
  have HO1 : Own w1 w.heap.size 104 #[.int .i64 0, .int .i64 0, .string { data := #[] }] := (Own.new _ _ _).turned ht (by show ¬ (w.heap.size = R); omega)
  have hs1 : w.heap.size < w1.heap.size := HO1.lt
  have HT : Hid (Turns (· = R) w w1) := ((Turns.refl (· = R) w).below (ch_alloc (Below.refl _ _) _)).trans ht
  clear hd ht
  obtain ⟨d0, d1, d2⟩ := HO1.loc.three
  have k0 := HO1.frozen 0
  have k1 := HO1.frozen 1
  have k2 := HO1.frozen 2
  go_wp2
  have HO3 : Own ((((w1.setCell ⟨w.heap.size, 0, none⟩ (.int .i64 (N : Int))).setCell ⟨w.heap.size, 1, none⟩ (.int .i64 0)).setCell ⟨w.heap.size, 2, none⟩ (.string { data := #[] })).alloc (.cells #[.int .i64 (N : Int), .int .i64 0, .string { data := #[] }] 104)) w.heap.size 104 #[.int .i64 (N : Int), .int .i64 0, .string { data := #[] }] := (own3 HO1 (.int .i64 (N : Int)) (.int .i64 0) (.string { data := #[] })).on (ch_alloc (Below.refl _ _) _)
  obtain ⟨hA, hB⟩ := sd_stores3 HD.out HT.out hRw (.int .i64 (N : Int)) (.int .i64 0) (.string { data := #[] })
  have HA : Hid (SdB ((((w1.setCell ⟨w.heap.size, 0, none⟩ (.int .i64 (N : Int))).setCell ⟨w.heap.size, 1, none⟩ (.int .i64 0)).setCell ⟨w.heap.size, 2, none⟩ (.string { data := #[] })).alloc (.cells #[.int .i64 (N : Int), .int .i64 0, .string { data := #[] }] 104)) R l (p + 1)) := hA.on (ch_alloc (Below.refl _ _) _)
  have HB : Hid (Turns (· = R) w ((((w1.setCell ⟨w.heap.size, 0, none⟩ (.int .i64 (N : Int))).setCell ⟨w.heap.size, 1, none⟩ (.int .i64 0)).setCell ⟨w.heap.size, 2, none⟩ (.string { data := #[] })).alloc (.cells #[.int .i64 (N : Int), .int .i64 0, .string { data := #[] }] 104))) := hB.below (ch_alloc (Below.refl _ _) _)
  clear hA hB
  generalize (((w1.setCell ⟨w.heap.size, 0, none⟩ (.int .i64 (N : Int))).setCell ⟨w.heap.size, 1, none⟩ (.int .i64 0)).setCell ⟨w.heap.size, 2, none⟩ (.string { data := #[] })).alloc (.cells #[.int .i64 (N : Int), .int .i64 0, .string { data := #[] }] 104) = W at HO3 HA HB ⊢
  obtain ⟨e0, e1, e2⟩ := HO3.loc.three
  exact bodyPost_ret (v := .agg #[.int .i64 (N : Int), .int .i64 0, .string { data := #[] }]) (by simp [results, Try.results92, go_sem, e0, e1, e2]) rfl ⟨rfl, HA.out, HB.out⟩
end Go.Proofs.Ytihilcffmdjhhao
