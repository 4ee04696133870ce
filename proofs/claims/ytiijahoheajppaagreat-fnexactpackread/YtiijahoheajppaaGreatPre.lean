/- The given reader of bytes: a value. The given reader of bytes: values, ReadVals. The given reader of bytes: right rows; the given ReadVals. Statements read from bytes as the given reader does, plainly. Batches read from bytes as the given reader does, plainly; its lists of words. -/
import Derived.Test.YtiijahoheajppaaGreatRs2
import Derived.Test.YtiijahoheajppaaGreatRka
namespace Go.Proofs.YtiijahoheajppaaGreat
open Go.ChangeShapes Go.WideShapes Go.ChangeAt Go.RowKit

theorem sd_stores {w w1 w2 : World} {R q : Nat} {E : List UInt8} (hd : SdB w2 R E q) (ht : Turns (· = R) w w2) (hR : R < w.heap.size) (hs : w.heap.size < w1.heap.size) (i : Nat) (v v0 v1 v2 : Value) :
    SdB ((((w2.setCell ⟨w1.heap.size, i, none⟩ v).setCell ⟨w.heap.size, 0, none⟩ v0).setCell ⟨w.heap.size, 1, none⟩ v1).setCell ⟨w.heap.size, 2, none⟩ v2) R E q ∧ Turns (· = R) w ((((w2.setCell ⟨w1.heap.size, i, none⟩ v).setCell ⟨w.heap.size, 0, none⟩ v0).setCell ⟨w.heap.size, 1, none⟩ v1).setCell ⟨w.heap.size, 2, none⟩ v2) :=
  ⟨(((hd.other (a := ⟨w1.heap.size, i, none⟩) (Nat.lt_trans hR hs) v).other (a := ⟨w.heap.size, 0, none⟩) hR v0).other (a := ⟨w.heap.size, 1, none⟩) hR v1).other (a := ⟨w.heap.size, 2, none⟩) hR v2,
   (((ht.fresh (p := ⟨w1.heap.size, i, none⟩) (Nat.le_of_lt hs) v).fresh (p := ⟨w.heap.size, 0, none⟩) (Nat.le_refl _) v0).fresh (p := ⟨w.heap.size, 1, none⟩) (Nat.le_refl _) v1).fresh (p := ⟨w.heap.size, 2, none⟩) (Nat.le_refl _) v2⟩
theorem sd_stores3 {w w2 : World} {R q : Nat} {E : List UInt8} (hd : SdB w2 R E q) (ht : Turns (· = R) w w2) (hR : R < w.heap.size) (v0 v1 v2 : Value) :
    SdB (((w2.setCell ⟨w.heap.size, 0, none⟩ v0).setCell ⟨w.heap.size, 1, none⟩ v1).setCell ⟨w.heap.size, 2, none⟩ v2) R E q ∧ Turns (· = R) w (((w2.setCell ⟨w.heap.size, 0, none⟩ v0).setCell ⟨w.heap.size, 1, none⟩ v1).setCell ⟨w.heap.size, 2, none⟩ v2) :=
  ⟨((hd.other (a := ⟨w.heap.size, 0, none⟩) hR v0).other (a := ⟨w.heap.size, 1, none⟩) hR v1).other (a := ⟨w.heap.size, 2, none⟩) hR v2,
   ((ht.fresh (p := ⟨w.heap.size, 0, none⟩) (Nat.le_refl _) v0).fresh (p := ⟨w.heap.size, 1, none⟩) (Nat.le_refl _) v1).fresh (p := ⟨w.heap.size, 2, none⟩) (Nat.le_refl _) v2⟩
set_option maxRecDepth 100000 in
set_option maxHeartbeats 1000000 in
/-- spec.l06Val -/
theorem l06Val_any (R p : Nat) (l : List UInt8) (w : World) (h : SdB w R l p) (hp : p ≤ 900000000) (hl : l.length ≤ 1048576) :
    Calls Tryz.prog 78 #[.pointer (some ⟨R, 0, none⟩)] w fun e w' => e = .returned (.agg (spV l p).1.cells) ∧ SdB w' R l (spV l p).2 ∧ Turns (· = R) w w' := by
  have HN : Hid (∀ u : World, SdB u R l p → Calls Tryz.prog 39 #[.pointer (some ⟨R, 0, none⟩), .int .i64 1] u fun e w' => e = .returned (.int .i64 (rdN 1 (l.drop p) : Int)) ∧ SdB w' R l (p + 1) ∧ Turns (· = R) u w') := fun u hu => l06Take_any R 1 p l u hu (by omega) (by omega) (by omega)
  have HR : Hid (SdB w R l p) := h
  have hRw : R < w.heap.size := by obtain ⟨_, _, _, ho, _⟩ := h; exact ho.lt
  have HN2 : Hid (∀ u : World, SdB u R l (p + 1) → Calls Tryz.prog 39 #[.pointer (some ⟨R, 0, none⟩), .int .i64 1] u fun e w' => e = .returned (.int .i64 (rdN 1 (l.drop (p + 1)) : Int)) ∧ SdB w' R l (p + 1 + 1) ∧ Turns (· = R) u w') := fun u hu => l06Take_any R 1 (p + 1) l u hu (by omega) (by omega) (by omega)
  have HS : Hid (∀ u : World, SdB u R l (p + 1 + 1) → Calls Tryz.prog 39 #[.pointer (some ⟨R, 0, none⟩), .int .i64 6] u fun e w' => e = .returned (.int .i64 (rdN 6 (l.drop (p + 1 + 1)) : Int)) ∧ SdB w' R l (p + 1 + 1 + 6) ∧ Turns (· = R) u w') := fun u hu => l06Take_any R 6 (p + 1 + 1) l u hu (by omega) (by omega) (by omega)
  have HX : Hid (∀ u : World, SdB u R l (p + 1 + 1) → Calls Tryz.prog 40 #[.pointer (some ⟨R, 0, none⟩), .int .i64 (rdN 1 (l.drop (p + 1)) : Int)] u fun e w' => e = .returned (.string (spT (rdN 1 (l.drop (p + 1))) l (p + 1 + 1)).1) ∧ SdB w' R l (spT (rdN 1 (l.drop (p + 1))) l (p + 1 + 1)).2 ∧ Turns (· = R) u w') := fun u hu => l06Text_any R _ (p + 1 + 1) l u hu (by have := rdN_byte (l.drop (p + 1)); omega) (by omega) hl
  have hlt := rdN_lt 6 (l.drop (p + 1 + 1)) (by omega)
  clear h
  by_cases h1 : rdN 1 (l.drop p) = 1
  · have e : spV l p = (⟨1, (rdN 1 (l.drop (p + 1)) : Int), ⟨#[]⟩⟩, p + 1 + 1) := by unfold spV; rw [if_pos h1]
    rw [e]
    rw [h1] at HN
    simp only
    clear HS HX h1 e
    generalize rdN 1 (l.drop (p + 1)) = M at HN2 ⊢
    go_enter Tryz.func78, Tryz.ntmps78
    go_wp2_with fail
    refine (HN.out _ (HR.out.on (by repeat (first | with_reducible exact Below.refl _ _ | with_reducible assumption | with_reducible refine ch_alloc ?_ _ | with_reducible refine Below.drew ?_ | with_reducible refine below_draws _ ?_ | (with_reducible refine Below.setCell ?_ ?_ _; rotate_left; focus (first | with_reducible exact Nat.le_refl _ | (simp; done) | (simp; omega) | (simp at *; omega))) | with_reducible refine ch_trans ?_ (by with_reducible assumption))))).mono ?_
    rintro e w1 ⟨rfl, hd, ht⟩
    have HD : Hid (SdB w1 R l (p + 1)) := hd
    have HO1 : Own w1 w.heap.size 128 #[.int .i64 0, .int .i64 0, .string { data := #[] }] := (Own.new _ _ _).turned ht (by show ¬ (w.heap.size = R); omega)
    have hs1 : w.heap.size < w1.heap.size := HO1.lt
    have HT : Hid (Turns (· = R) w w1) := ((Turns.refl (· = R) w).below (ch_alloc (Below.refl _ _) _)).trans ht
    clear hd ht
    go_wp2_with fail
    refine (HN2.out _ (HD.out.on (by repeat (first | with_reducible exact Below.refl _ _ | with_reducible assumption | with_reducible refine ch_alloc ?_ _ | with_reducible refine Below.drew ?_ | with_reducible refine below_draws _ ?_ | (with_reducible refine Below.setCell ?_ ?_ _; rotate_left; focus (first | with_reducible exact Nat.le_refl _ | (simp; done) | (simp; omega) | (simp at *; omega))) | with_reducible refine ch_trans ?_ (by with_reducible assumption))))).mono ?_
    rintro e w2 ⟨rfl, hd, ht⟩
    have HO2 : Own w2 w.heap.size 128 #[.int .i64 0, .int .i64 0, .string { data := #[] }] := (HO1.on (ch_alloc (Below.refl _ _) _)).turned ht (by show ¬ (w.heap.size = R); omega)
    have HV2 : Own w2 w1.heap.size 128 #[.int .i64 1, .int .i64 0, .string { data := #[] }] := (Own.new _ _ _).turned ht (by show ¬ (w1.heap.size = R); omega)
    have hs2 : w1.heap.size < w2.heap.size := HV2.lt
    have HD2 : Hid (SdB w2 R l (p + 1 + 1)) := hd
    have HT2 : Hid (Turns (· = R) w w2) := (HT.out.below (ch_alloc (Below.refl _ _) _)).trans ht
    clear hd ht
    obtain ⟨c0, c1, c2⟩ := HV2.loc.three
    obtain ⟨d0, d1, d2⟩ := HO2.loc.three
    have f0 := HV2.frozen 1
    have k0 := HO2.frozen 0
    have k1 := HO2.frozen 1
    have k2 := HO2.frozen 2
    go_wp2
    have HO3 : Own _ w.heap.size 128 #[.int .i64 1, .int .i64 (M : Int), .string { data := #[] }] := own3 (HO2.other (p := ⟨w1.heap.size, 1, none⟩) (by simp; omega) (.int .i64 (M : Int))) (.int .i64 1) (.int .i64 (M : Int)) (.string { data := #[] })
    have HB3 : Hid (Below w2.heap.size w2 w2) := Below.refl _ _
    have HE3 : Hid (∀ W : World, W = (((w2.setCell ⟨w1.heap.size, 1, none⟩ (.int .i64 (M : Int))).setCell ⟨w.heap.size, 0, none⟩ (.int .i64 1)).setCell ⟨w.heap.size, 1, none⟩ (.int .i64 (M : Int))).setCell ⟨w.heap.size, 2, none⟩ (.string { data := #[] }) → SdB W R l (p + 1 + 1) ∧ Turns (· = R) w W) := fun W hW => by
      subst hW
      exact sd_stores HD2.out HT2.out hRw hs1 _ _ _ _ _
    generalize hW : (((w2.setCell ⟨w1.heap.size, 1, none⟩ (.int .i64 (M : Int))).setCell ⟨w.heap.size, 0, none⟩ (.int .i64 1)).setCell ⟨w.heap.size, 1, none⟩ (.int .i64 (M : Int))).setCell ⟨w.heap.size, 2, none⟩ (.string { data := #[] }) = W at HO3 ⊢
    obtain ⟨hA, hB⟩ := HE3.out W hW.symm
    obtain ⟨e0, e1, e2⟩ := HO3.loc.three
    exact bodyPost_ret (v := .agg #[.int .i64 1, .int .i64 (M : Int), .string { data := #[] }]) (by simp [results, Tryz.results78, go_sem, e0, e1, e2]) rfl ⟨rfl, hA, hB⟩
  by_cases h2 : rdN 1 (l.drop p) = 2
  · by_cases hsg : rdN 1 (l.drop (p + 1)) = 1
    · have e : spV l p = (⟨2, -(rdN 6 (l.drop (p + 1 + 1)) : Int), ⟨#[]⟩⟩, p + 1 + 1 + 6) := by unfold spV; rw [if_neg h1, if_pos h2, if_pos hsg]
      rw [e]
      rw [h2] at HN
      simp only
      rw [hsg] at HN2
      clear HX h1 h2 e hsg
      generalize rdN 6 (l.drop (p + 1 + 1)) = M at HS hlt ⊢
      go_enter Tryz.func78, Tryz.ntmps78
      go_wp2_with fail
      refine (HN.out _ (HR.out.on (by repeat (first | with_reducible exact Below.refl _ _ | with_reducible assumption | with_reducible refine ch_alloc ?_ _ | with_reducible refine Below.drew ?_ | with_reducible refine below_draws _ ?_ | (with_reducible refine Below.setCell ?_ ?_ _; rotate_left; focus (first | with_reducible exact Nat.le_refl _ | (simp; done) | (simp; omega) | (simp at *; omega))) | with_reducible refine ch_trans ?_ (by with_reducible assumption))))).mono ?_
      rintro e w1 ⟨rfl, hd, ht⟩
      have HD : Hid (SdB w1 R l (p + 1)) := hd
      have HO1 : Own w1 w.heap.size 128 #[.int .i64 0, .int .i64 0, .string { data := #[] }] := (Own.new _ _ _).turned ht (by show ¬ (w.heap.size = R); omega)
      have hs1 : w.heap.size < w1.heap.size := HO1.lt
      have HT : Hid (Turns (· = R) w w1) := ((Turns.refl (· = R) w).below (ch_alloc (Below.refl _ _) _)).trans ht
      clear hd ht
      go_wp2_with fail
      refine (HN2.out _ (HD.out.on (by repeat (first | with_reducible exact Below.refl _ _ | with_reducible assumption | with_reducible refine ch_alloc ?_ _ | with_reducible refine Below.drew ?_ | with_reducible refine below_draws _ ?_ | (with_reducible refine Below.setCell ?_ ?_ _; rotate_left; focus (first | with_reducible exact Nat.le_refl _ | (simp; done) | (simp; omega) | (simp at *; omega))) | with_reducible refine ch_trans ?_ (by with_reducible assumption))))).mono ?_
      rintro e w2 ⟨rfl, hd, ht⟩
      have HO2 : Own w2 w.heap.size 128 #[.int .i64 0, .int .i64 0, .string { data := #[] }] := (HO1.on (ch_alloc (Below.refl _ _) _)).turned ht (by show ¬ (w.heap.size = R); omega)
      have HV2 : Own w2 w1.heap.size 128 #[.int .i64 2, .int .i64 0, .string { data := #[] }] := (Own.new _ _ _).turned ht (by show ¬ (w1.heap.size = R); omega)
      have hs2 : w1.heap.size < w2.heap.size := HV2.lt
      have HD2 : Hid (SdB w2 R l (p + 1 + 1)) := hd
      have HT2 : Hid (Turns (· = R) w w2) := (HT.out.below (ch_alloc (Below.refl _ _) _)).trans ht
      clear hd ht
      go_wp2_with fail
      refine (HS.out _ HD2.out).mono ?_
      rintro e w3 ⟨rfl, hd, ht⟩
      have HO3' : Own w3 w.heap.size 128 #[.int .i64 0, .int .i64 0, .string { data := #[] }] := HO2.turned ht (by show ¬ (w.heap.size = R); omega)
      have HV3 : Own w3 w1.heap.size 128 #[.int .i64 2, .int .i64 0, .string { data := #[] }] := HV2.turned ht (by show ¬ (w1.heap.size = R); omega)
      have HD3 : Hid (SdB w3 R l (p + 1 + 1 + 6)) := hd
      have HT3 : Hid (Turns (· = R) w w3) := HT2.out.trans ht
      clear hd ht
      obtain ⟨c0, c1, c2⟩ := HV3.loc.three
      obtain ⟨d0, d1, d2⟩ := HO3'.loc.three
      have f0 := HV3.frozen 1
      have k0 := HO3'.frozen 0
      have k1 := HO3'.frozen 1
      have k2 := HO3'.frozen 2
      go_wp2
      have HO3 : Own _ w.heap.size 128 #[.int .i64 2, .int .i64 (-(M : Int)), .string { data := #[] }] := own3 ((HO3'.other (p := ⟨w1.heap.size, 1, none⟩) (by simp; omega) (.int .i64 (M : Int))).other (p := ⟨w1.heap.size, 1, none⟩) (by simp; omega) (.int .i64 (-(M : Int)))) (.int .i64 2) (.int .i64 (-(M : Int))) (.string { data := #[] })
      have HB3 : Hid (Below w3.heap.size w3 w3) := Below.refl _ _
      have HE3 : Hid (∀ W : World, W = ((((w3.setCell ⟨w1.heap.size, 1, none⟩ (.int .i64 (M : Int))).setCell ⟨w1.heap.size, 1, none⟩ (.int .i64 (-(M : Int)))).setCell ⟨w.heap.size, 0, none⟩ (.int .i64 2)).setCell ⟨w.heap.size, 1, none⟩ (.int .i64 (-(M : Int)))).setCell ⟨w.heap.size, 2, none⟩ (.string { data := #[] }) → SdB W R l (p + 1 + 1 + 6) ∧ Turns (· = R) w W) := fun W hW => by
        subst hW
        exact sd_stores (HD3.out.other (a := ⟨w1.heap.size, 1, none⟩) (Nat.lt_trans hRw hs1) (.int .i64 (M : Int))) (HT3.out.fresh (p := ⟨w1.heap.size, 1, none⟩) (Nat.le_of_lt hs1) (.int .i64 (M : Int))) hRw hs1 _ _ _ _ _
      generalize hW : ((((w3.setCell ⟨w1.heap.size, 1, none⟩ (.int .i64 (M : Int))).setCell ⟨w1.heap.size, 1, none⟩ (.int .i64 (-(M : Int)))).setCell ⟨w.heap.size, 0, none⟩ (.int .i64 2)).setCell ⟨w.heap.size, 1, none⟩ (.int .i64 (-(M : Int)))).setCell ⟨w.heap.size, 2, none⟩ (.string { data := #[] }) = W at HO3 ⊢
      obtain ⟨hA, hB⟩ := HE3.out W hW.symm
      obtain ⟨e0, e1, e2⟩ := HO3.loc.three
      exact bodyPost_ret (v := .agg #[.int .i64 2, .int .i64 (-(M : Int)), .string { data := #[] }]) (by simp [results, Tryz.results78, go_sem, e0, e1, e2]) rfl ⟨rfl, hA, hB⟩
    · have e : spV l p = (⟨2, (rdN 6 (l.drop (p + 1 + 1)) : Int), ⟨#[]⟩⟩, p + 1 + 1 + 6) := by unfold spV; rw [if_neg h1, if_pos h2, if_neg hsg]
      rw [e]
      rw [h2] at HN
      have hsg' : (((rdN 1 (l.drop (p + 1)) : Nat) : Int) == 1) = false := by simp; omega
      simp only
      clear HX h1 h2 e hsg
      generalize rdN 6 (l.drop (p + 1 + 1)) = M at HS hlt ⊢
      generalize rdN 1 (l.drop (p + 1)) = M1 at HN2 hsg'
      go_enter Tryz.func78, Tryz.ntmps78
      go_wp2_with fail
      refine (HN.out _ (HR.out.on (by repeat (first | with_reducible exact Below.refl _ _ | with_reducible assumption | with_reducible refine ch_alloc ?_ _ | with_reducible refine Below.drew ?_ | with_reducible refine below_draws _ ?_ | (with_reducible refine Below.setCell ?_ ?_ _; rotate_left; focus (first | with_reducible exact Nat.le_refl _ | (simp; done) | (simp; omega) | (simp at *; omega))) | with_reducible refine ch_trans ?_ (by with_reducible assumption))))).mono ?_
      rintro e w1 ⟨rfl, hd, ht⟩
      have HD : Hid (SdB w1 R l (p + 1)) := hd
      have HO1 : Own w1 w.heap.size 128 #[.int .i64 0, .int .i64 0, .string { data := #[] }] := (Own.new _ _ _).turned ht (by show ¬ (w.heap.size = R); omega)
      have hs1 : w.heap.size < w1.heap.size := HO1.lt
      have HT : Hid (Turns (· = R) w w1) := ((Turns.refl (· = R) w).below (ch_alloc (Below.refl _ _) _)).trans ht
      clear hd ht
      go_wp2_with fail
      refine (HN2.out _ (HD.out.on (by repeat (first | with_reducible exact Below.refl _ _ | with_reducible assumption | with_reducible refine ch_alloc ?_ _ | with_reducible refine Below.drew ?_ | with_reducible refine below_draws _ ?_ | (with_reducible refine Below.setCell ?_ ?_ _; rotate_left; focus (first | with_reducible exact Nat.le_refl _ | (simp; done) | (simp; omega) | (simp at *; omega))) | with_reducible refine ch_trans ?_ (by with_reducible assumption))))).mono ?_
      rintro e w2 ⟨rfl, hd, ht⟩
      have HO2 : Own w2 w.heap.size 128 #[.int .i64 0, .int .i64 0, .string { data := #[] }] := (HO1.on (ch_alloc (Below.refl _ _) _)).turned ht (by show ¬ (w.heap.size = R); omega)
      have HV2 : Own w2 w1.heap.size 128 #[.int .i64 2, .int .i64 0, .string { data := #[] }] := (Own.new _ _ _).turned ht (by show ¬ (w1.heap.size = R); omega)
      have hs2 : w1.heap.size < w2.heap.size := HV2.lt
      have HD2 : Hid (SdB w2 R l (p + 1 + 1)) := hd
      have HT2 : Hid (Turns (· = R) w w2) := (HT.out.below (ch_alloc (Below.refl _ _) _)).trans ht
      clear hd ht
      go_wp2_with fail
      refine (HS.out _ HD2.out).mono ?_
      rintro e w3 ⟨rfl, hd, ht⟩
      have HO3' : Own w3 w.heap.size 128 #[.int .i64 0, .int .i64 0, .string { data := #[] }] := HO2.turned ht (by show ¬ (w.heap.size = R); omega)
      have HV3 : Own w3 w1.heap.size 128 #[.int .i64 2, .int .i64 0, .string { data := #[] }] := HV2.turned ht (by show ¬ (w1.heap.size = R); omega)
      have HD3 : Hid (SdB w3 R l (p + 1 + 1 + 6)) := hd
      have HT3 : Hid (Turns (· = R) w w3) := HT2.out.trans ht
      clear hd ht
      obtain ⟨c0, c1, c2⟩ := HV3.loc.three
      obtain ⟨d0, d1, d2⟩ := HO3'.loc.three
      have f0 := HV3.frozen 1
      have k0 := HO3'.frozen 0
      have k1 := HO3'.frozen 1
      have k2 := HO3'.frozen 2
      go_wp2
      have HO3 : Own _ w.heap.size 128 #[.int .i64 2, .int .i64 (M : Int), .string { data := #[] }] := own3 (HO3'.other (p := ⟨w1.heap.size, 1, none⟩) (by simp; omega) (.int .i64 (M : Int))) (.int .i64 2) (.int .i64 (M : Int)) (.string { data := #[] })
      have HB3 : Hid (Below w3.heap.size w3 w3) := Below.refl _ _
      have HE3 : Hid (∀ W : World, W = (((w3.setCell ⟨w1.heap.size, 1, none⟩ (.int .i64 (M : Int))).setCell ⟨w.heap.size, 0, none⟩ (.int .i64 2)).setCell ⟨w.heap.size, 1, none⟩ (.int .i64 (M : Int))).setCell ⟨w.heap.size, 2, none⟩ (.string { data := #[] }) → SdB W R l (p + 1 + 1 + 6) ∧ Turns (· = R) w W) := fun W hW => by
        subst hW
        exact sd_stores HD3.out HT3.out hRw hs1 _ _ _ _ _
      generalize hW : (((w3.setCell ⟨w1.heap.size, 1, none⟩ (.int .i64 (M : Int))).setCell ⟨w.heap.size, 0, none⟩ (.int .i64 2)).setCell ⟨w.heap.size, 1, none⟩ (.int .i64 (M : Int))).setCell ⟨w.heap.size, 2, none⟩ (.string { data := #[] }) = W at HO3 ⊢
      obtain ⟨hA, hB⟩ := HE3.out W hW.symm
      obtain ⟨e0, e1, e2⟩ := HO3.loc.three
      exact bodyPost_ret (v := .agg #[.int .i64 2, .int .i64 (M : Int), .string { data := #[] }]) (by simp [results, Tryz.results78, go_sem, e0, e1, e2]) rfl ⟨rfl, hA, hB⟩
  by_cases h3 : rdN 1 (l.drop p) = 3
  · have e : spV l p = (⟨3, 0, (spT (rdN 1 (l.drop (p + 1))) l (p + 1 + 1)).1⟩, (spT (rdN 1 (l.drop (p + 1))) l (p + 1 + 1)).2) := by unfold spV; rw [if_neg h1, if_neg h2, if_pos h3]
    rw [e]
    rw [h3] at HN
    simp only
    clear HS h1 h2 h3 e
    generalize (spT (rdN 1 (l.drop (p + 1))) l (p + 1 + 1)).2 = P2 at HX ⊢
    generalize (spT (rdN 1 (l.drop (p + 1))) l (p + 1 + 1)).1 = X at HX ⊢
    generalize rdN 1 (l.drop (p + 1)) = M at HN2 HX
    go_enter Tryz.func78, Tryz.ntmps78
    go_wp2_with fail
    refine (HN.out _ (HR.out.on (by repeat (first | with_reducible exact Below.refl _ _ | with_reducible assumption | with_reducible refine ch_alloc ?_ _ | with_reducible refine Below.drew ?_ | with_reducible refine below_draws _ ?_ | (with_reducible refine Below.setCell ?_ ?_ _; rotate_left; focus (first | with_reducible exact Nat.le_refl _ | (simp; done) | (simp; omega) | (simp at *; omega))) | with_reducible refine ch_trans ?_ (by with_reducible assumption))))).mono ?_
    rintro e w1 ⟨rfl, hd, ht⟩
    have HD : Hid (SdB w1 R l (p + 1)) := hd
    have HO1 : Own w1 w.heap.size 128 #[.int .i64 0, .int .i64 0, .string { data := #[] }] := (Own.new _ _ _).turned ht (by show ¬ (w.heap.size = R); omega)
    have hs1 : w.heap.size < w1.heap.size := HO1.lt
    have HT : Hid (Turns (· = R) w w1) := ((Turns.refl (· = R) w).below (ch_alloc (Below.refl _ _) _)).trans ht
    clear hd ht
    go_wp2_with fail
    refine (HN2.out _ (HD.out.on (by repeat (first | with_reducible exact Below.refl _ _ | with_reducible assumption | with_reducible refine ch_alloc ?_ _ | with_reducible refine Below.drew ?_ | with_reducible refine below_draws _ ?_ | (with_reducible refine Below.setCell ?_ ?_ _; rotate_left; focus (first | with_reducible exact Nat.le_refl _ | (simp; done) | (simp; omega) | (simp at *; omega))) | with_reducible refine ch_trans ?_ (by with_reducible assumption))))).mono ?_
    rintro e w2 ⟨rfl, hd, ht⟩
    have HO2 : Own w2 w.heap.size 128 #[.int .i64 0, .int .i64 0, .string { data := #[] }] := (HO1.on (ch_alloc (Below.refl _ _) _)).turned ht (by show ¬ (w.heap.size = R); omega)
    have HV2 : Own w2 w1.heap.size 128 #[.int .i64 3, .int .i64 0, .string { data := #[] }] := (Own.new _ _ _).turned ht (by show ¬ (w1.heap.size = R); omega)
    have hs2 : w1.heap.size < w2.heap.size := HV2.lt
    have HD2 : Hid (SdB w2 R l (p + 1 + 1)) := hd
    have HT2 : Hid (Turns (· = R) w w2) := (HT.out.below (ch_alloc (Below.refl _ _) _)).trans ht
    clear hd ht
    go_wp2_with fail
    refine (HX.out _ HD2.out).mono ?_
    rintro e w3 ⟨rfl, hd, ht⟩
    have HO3' : Own w3 w.heap.size 128 #[.int .i64 0, .int .i64 0, .string { data := #[] }] := HO2.turned ht (by show ¬ (w.heap.size = R); omega)
    have HV3 : Own w3 w1.heap.size 128 #[.int .i64 3, .int .i64 0, .string { data := #[] }] := HV2.turned ht (by show ¬ (w1.heap.size = R); omega)
    have HD3 : Hid (SdB w3 R l (P2)) := hd
    have HT3 : Hid (Turns (· = R) w w3) := HT2.out.trans ht
    clear hd ht
    obtain ⟨c0, c1, c2⟩ := HV3.loc.three
    obtain ⟨d0, d1, d2⟩ := HO3'.loc.three
    have f0 := HV3.frozen 2
    have k0 := HO3'.frozen 0
    have k1 := HO3'.frozen 1
    have k2 := HO3'.frozen 2
    go_wp2
    have HO3 : Own _ w.heap.size 128 #[.int .i64 3, .int .i64 0, .string X] := own3 (HO3'.other (p := ⟨w1.heap.size, 2, none⟩) (by simp; omega) (.string X)) (.int .i64 3) (.int .i64 0) (.string X)
    have HB3 : Hid (Below w3.heap.size w3 w3) := Below.refl _ _
    have HE3 : Hid (∀ W : World, W = (((w3.setCell ⟨w1.heap.size, 2, none⟩ (.string X)).setCell ⟨w.heap.size, 0, none⟩ (.int .i64 3)).setCell ⟨w.heap.size, 1, none⟩ (.int .i64 0)).setCell ⟨w.heap.size, 2, none⟩ (.string X) → SdB W R l (P2) ∧ Turns (· = R) w W) := fun W hW => by
      subst hW
      exact sd_stores HD3.out HT3.out hRw hs1 _ _ _ _ _
    generalize hW : (((w3.setCell ⟨w1.heap.size, 2, none⟩ (.string X)).setCell ⟨w.heap.size, 0, none⟩ (.int .i64 3)).setCell ⟨w.heap.size, 1, none⟩ (.int .i64 0)).setCell ⟨w.heap.size, 2, none⟩ (.string X) = W at HO3 ⊢
    obtain ⟨hA, hB⟩ := HE3.out W hW.symm
    obtain ⟨e0, e1, e2⟩ := HO3.loc.three
    exact bodyPost_ret (v := .agg #[.int .i64 3, .int .i64 0, .string X]) (by simp [results, Tryz.results78, go_sem, e0, e1, e2]) rfl ⟨rfl, hA, hB⟩
  have e : spV l p = (⟨(rdN 1 (l.drop p) : Int), 0, ⟨#[]⟩⟩, p + 1) := by unfold spV; rw [if_neg h1, if_neg h2, if_neg h3]
  rw [e]
  simp only
  clear HN2 HS HX e
  generalize rdN 1 (l.drop p) = N at HN h1 h2 h3 ⊢
  have n1 : ((N : Int) == 1) = false := by simp; omega
  have n2 : ((N : Int) == 2) = false := by simp; omega
  have n3 : ((N : Int) == 3) = false := by simp; omega
  clear h1 h2 h3
  go_enter Tryz.func78, Tryz.ntmps78
  go_wp2_with fail
  refine (HN.out _ (HR.out.on (by repeat (first | with_reducible exact Below.refl _ _ | with_reducible assumption | with_reducible refine ch_alloc ?_ _ | with_reducible refine Below.drew ?_ | with_reducible refine below_draws _ ?_ | (with_reducible refine Below.setCell ?_ ?_ _; rotate_left; focus (first | with_reducible exact Nat.le_refl _ | (simp; done) | (simp; omega) | (simp at *; omega))) | with_reducible refine ch_trans ?_ (by with_reducible assumption))))).mono ?_
  rintro e w1 ⟨rfl, hd, ht⟩
  have HD : Hid (SdB w1 R l (p + 1)) := hd
  have HO1 : Own w1 w.heap.size 128 #[.int .i64 0, .int .i64 0, .string { data := #[] }] := (Own.new _ _ _).turned ht (by show ¬ (w.heap.size = R); omega)
  have hs1 : w.heap.size < w1.heap.size := HO1.lt
  have HT : Hid (Turns (· = R) w w1) := ((Turns.refl (· = R) w).below (ch_alloc (Below.refl _ _) _)).trans ht
  clear hd ht
  obtain ⟨d0, d1, d2⟩ := HO1.loc.three
  have k0 := HO1.frozen 0
  have k1 := HO1.frozen 1
  have k2 := HO1.frozen 2
  go_wp2
  have HO3 : Own ((((w1.setCell ⟨w.heap.size, 0, none⟩ (.int .i64 (N : Int))).setCell ⟨w.heap.size, 1, none⟩ (.int .i64 0)).setCell ⟨w.heap.size, 2, none⟩ (.string { data := #[] })).alloc (.cells #[.int .i64 (N : Int), .int .i64 0, .string { data := #[] }] 128)) w.heap.size 128 #[.int .i64 (N : Int), .int .i64 0, .string { data := #[] }] := (own3 HO1 (.int .i64 (N : Int)) (.int .i64 0) (.string { data := #[] })).on (ch_alloc (Below.refl _ _) _)
  obtain ⟨hA, hB⟩ := sd_stores3 HD.out HT.out hRw (.int .i64 (N : Int)) (.int .i64 0) (.string { data := #[] })
  have HA : Hid (SdB ((((w1.setCell ⟨w.heap.size, 0, none⟩ (.int .i64 (N : Int))).setCell ⟨w.heap.size, 1, none⟩ (.int .i64 0)).setCell ⟨w.heap.size, 2, none⟩ (.string { data := #[] })).alloc (.cells #[.int .i64 (N : Int), .int .i64 0, .string { data := #[] }] 128)) R l (p + 1)) := hA.on (ch_alloc (Below.refl _ _) _)
  have HB : Hid (Turns (· = R) w ((((w1.setCell ⟨w.heap.size, 0, none⟩ (.int .i64 (N : Int))).setCell ⟨w.heap.size, 1, none⟩ (.int .i64 0)).setCell ⟨w.heap.size, 2, none⟩ (.string { data := #[] })).alloc (.cells #[.int .i64 (N : Int), .int .i64 0, .string { data := #[] }] 128))) := hB.below (ch_alloc (Below.refl _ _) _)
  clear hA hB
  generalize (((w1.setCell ⟨w.heap.size, 0, none⟩ (.int .i64 (N : Int))).setCell ⟨w.heap.size, 1, none⟩ (.int .i64 0)).setCell ⟨w.heap.size, 2, none⟩ (.string { data := #[] })).alloc (.cells #[.int .i64 (N : Int), .int .i64 0, .string { data := #[] }] 128) = W at HO3 HA HB ⊢
  obtain ⟨e0, e1, e2⟩ := HO3.loc.three
  exact bodyPost_ret (v := .agg #[.int .i64 (N : Int), .int .i64 0, .string { data := #[] }]) (by simp [results, Tryz.results78, go_sem, e0, e1, e2]) rfl ⟨rfl, HA.out, HB.out⟩
end Go.Proofs.YtiijahoheajppaaGreat

namespace Go.Proofs.YtiijahoheajppaaGreat
open Go.ChangeShapes Go.WideShapes Go.ChangeAt Go.RowKit

theorem spV_le (l : List UInt8) (p : Nat) : (spV l p).2 ≤ p + 300 ∨ (spV l p).2 ≤ l.length + 1 := by
  unfold spV
  split
  · exact Or.inl (by simp)
  split
  · exact Or.inl (by simp)
  split
  · simp only [spT]
    split
    · exact Or.inl (by have := rdN_byte (l.drop (p + 1)); simp only; omega)
    · exact Or.inr (by simp)
  · exact Or.inl (by simp)
theorem SdB.low {w w' : World} {R B p : Nat} {l : List UInt8} (h : SdB w R l p) (hR : R < B) (k : Below B w w') : SdB w' R l p := by
  obtain ⟨b, off, cap, ho, hb, h3, h4, hr⟩ := h
  refine ⟨b, off, cap, (k.block R hR).trans ho, hb, h3, h4, hr.1, ?_⟩
  rcases hr.2 with h0 | ⟨b', off', e, h1⟩
  · exact Or.inl h0
  · cases e
    exact Or.inr ⟨b, off, rfl, fun i hi j hj => (k.cell (p := ⟨b, off + i * 1 + j, none⟩) (Nat.lt_trans hb hR)).trans (h1 i hi j hj)⟩
set_option maxRecDepth 100000 in
set_option maxHeartbeats 1000000 in
/-- spec.l06Vals -/
theorem l06Vals_any (R : Nat) (l : List UInt8) (w : World) (h : SdB w R l 0) (hl : l.length ≤ 1048576) :
    Calls Tryz.prog 41 #[.pointer (some ⟨R, 0, none⟩)] w fun e w' => ∃ v, e = .returned v ∧ Got w' w.heap.size 128 3 v ((spVs (min (rdN 1 l) 9) l 1).1.map Vc.cells) ∧ Turns (· = R) w w' := by
  have HN : Hid (∀ u : World, SdB u R l 0 → Calls Tryz.prog 39 #[.pointer (some ⟨R, 0, none⟩), .int .i64 1] u fun e w' => e = .returned (.int .i64 (rdN 1 l : Int)) ∧ SdB w' R l 1 ∧ Turns (· = R) u w') := fun u hu => l06Take_any R 1 0 l u hu (by omega) (by omega) (by omega)
  have HR : Hid (SdB w R l 0) := h
  have hRw : R < w.heap.size := by obtain ⟨_, _, _, ho, _⟩ := h; exact ho.lt
  have hn256 := rdN_byte l
  clear h
  generalize rdN 1 l = N at HN hn256 ⊢
  go_enter Tryz.func41, Tryz.ntmps41
  go_wp2_with fail
  refine (HN.out _ (HR.out.on (by repeat (first | with_reducible exact Below.refl _ _ | with_reducible assumption | with_reducible refine ch_alloc ?_ _ | with_reducible refine Below.drew ?_ | with_reducible refine below_draws _ ?_ | (with_reducible refine Below.setCell ?_ ?_ _; rotate_left; focus (first | with_reducible exact Nat.le_refl _ | (simp; done) | (simp; omega) | (simp at *; omega))) | with_reducible refine ch_trans ?_ (by with_reducible assumption))))).mono ?_
  rintro e w1 ⟨rfl, hd, ht⟩
  have HD : Hid (SdB w1 R l 1) := hd
  have HG : Hid (Got w1 w.heap.size 128 3 (.slice (some ⟨w.heap.size, 0, none⟩) 0 0) (([] : List Vc).map Vc.cells)) := (Got.empty w 128 3).turns ht fun c h => by have h : c = R := h; omega
  have HT : Hid (Turns (· = R) w w1) := ((Turns.refl (· = R) w).below (ch_alloc (Below.refl _ _) _)).trans ht
  clear hd ht
  go_wp2
  go_loopw [3, 5] (fun q i wr => ∃ (k : Nat) (vs : List Vc) (cur : Nat), k ≤ min N 9 ∧ i = .int .i64 (k : Int) ∧ vs.length = k ∧ cur ≤ 1048600 + 300 * k ∧ Hid (vs ++ (spVs (min N 9 - k) l cur).1 = (spVs (min N 9) l 1).1) ∧ Hid (SdB wr R l cur) ∧ Hid (Turns (· = R) w wr) ∧ Hid (Got wr w.heap.size 128 3 q (vs.map Vc.cells))) (fun _ i _ => 10 - (intOf i).toNat)
  case atStart => exact ⟨0, [], 1, Nat.zero_le _, rfl, rfl, by omega, rfl, HD, HT, HG⟩
  case round =>
    clear HD HT HG
    obtain ⟨k, vs, cur, hk, rfl, hvk, hcur, HE, HD, HT, HG⟩ := hrel
    obtain ⟨a1, n1, c1, rfl, hg⟩ := HG.out.lit2
    have HG1 : Hid (Got wr w.heap.size 128 3 (.slice a1 n1 c1) (vs.map Vc.cells)) := hg
    have hk9 : k ≤ 9 := by omega
    clear hg HG
    by_cases hlt : k < min N 9
    · have hlti : (k : Int) < N := by omega
      have hlt8 : (k : Int) ≤ 8 := by omega
      have HVA : Hid (Calls Tryz.prog 78 #[.pointer (some ⟨R, 0, none⟩)] wr fun e w' => e = .returned (.agg (spV l cur).1.cells) ∧ SdB w' R l (spV l cur).2 ∧ Turns (· = R) wr w') := l06Val_any R cur l wr HD.out (by omega) hl
      have HE' : Hid ((vs ++ [(spV l cur).1]) ++ (spVs (min N 9 - (k + 1)) l (spV l cur).2).1 = (spVs (min N 9) l 1).1) := by
        show _ = _
        rw [← HE.out, show min N 9 - k = (min N 9 - (k + 1)) + 1 by omega, List.append_assoc]; rfl
      have hnx : (spV l cur).2 ≤ 1048600 + 300 * (k + 1) := by have := spV_le l cur; omega
      generalize (spV l cur).2 = nxt at HVA HE' hnx
      generalize (spV l cur).1 = c at HVA HE'
      obtain ⟨ty, n, x⟩ := c
      go_wp2_with fail
      refine HVA.out.mono ?_
      rintro e w2 ⟨rfl, hd, ht⟩
      have HD2 : Hid (SdB w2 R l nxt) := hd
      have HT2 : Hid (Turns (· = R) w w2) := HT.out.trans ht
      have HG2 : Hid (Got w2 w.heap.size 128 3 (.slice a1 n1 c1) (vs.map Vc.cells)) := HG1.out.turns ht fun c h => by have h : c = R := h; omega
      have hs2 : w.heap.size ≤ w2.heap.size := HT2.out.size
      clear hd ht
      go_wp2_with (at_builtin; refine app_one rfl (.tmp 18) (.tmp 21) rfl Tryz.underlying40 infoVal rfl (by decide) (by decide) w.heap.size _ (vs.map Vc.cells) rfl (HG2.out.on (ch_alloc (Below.refl _ _) _)) w2.heap.size 1 #[.int .i64 ty, .int .i64 n, .string x] rfl (Loc.new _ _ _) rfl (val_one ⟨ty, n, x⟩) (by simp; omega) (by simp; omega) ?_; intro v3 w3 hg3 hb3)
      have HG3 : Hid (Got w3 w.heap.size 128 3 v3 ((vs ++ [(⟨ty, n, x⟩ : Vc)]).map Vc.cells)) := by
        show Got _ _ _ _ _ _
        rw [List.map_append]; exact hg3
      have hb23 : Below w.heap.size w2 w3 := (Below.alloc (Below.refl _ _) hs2 _).trans hb3
      have HD3 : Hid (SdB w3 R l nxt) := HD2.out.low hRw hb23
      have HT3 : Hid (Turns (· = R) w w3) := HT2.out.low hb23
      clear hg3 hb3 hb23
      go_round
      case rel => exact ⟨k + 1, vs ++ [⟨ty, n, x⟩], nxt, by omega, by go_num, by simp; omega, hnx, HE', HD3, HT3, HG3⟩
      case measure => simp [intOf]; omega
    · by_cases hN : k < N
      · have hlti : (k : Int) < N := by omega
        have hlt8 : ¬ (k : Int) ≤ 8 := by omega
        have HF : Hid (vs = (spVs (min N 9) l 1).1) := by
          have := HE.out
          rw [show min N 9 - k = 0 by omega, spVs] at this
          show vs = _
          simpa using this
        go_wp2
        go_ret
        exact ⟨_, rfl, by rw [← HF.out]; exact HG1.out, HT.out⟩
      · have hlti : ¬ (k : Int) < N := by omega
        have HF : Hid (vs = (spVs (min N 9) l 1).1) := by
          have := HE.out
          rw [show min N 9 - k = 0 by omega, spVs] at this
          show vs = _
          simpa using this
        go_wp2
        go_ret
        exact ⟨_, rfl, by rw [← HF.out]; exact HG1.out, HT.out⟩
end Go.Proofs.YtiijahoheajppaaGreat

namespace Go.Proofs.YtiijahoheajppaaGreat
open Go.ChangeShapes Go.WideShapes Go.ChangeAt Go.RowKit

theorem textL_cons (x : ByteArray) : textL x = UInt8.ofNat x.size :: x.data.toList := rfl
theorem spV_val (l : List UInt8) (p : Nat) (c : Vc) (r : List UInt8) (hd : l.drop p = valL c ++ r) (h : okB c.ty c.n c.s = true) : spV l p = (c, p + (valL c).length) := by
  have d1 : l.drop (p + 1) = (valL c ++ r).drop 1 := by rw [← hd, List.drop_drop]
  have d2 : l.drop (p + 1 + 1) = (valL c ++ r).drop 2 := by rw [← hd, List.drop_drop]
  have hlen : l.length - p = (valL c).length + r.length := by
    have := congrArg List.length hd
    simpa using this
  have hpos : 1 ≤ (valL c).length := by simp [valL]
  unfold spV
  rw [hd, d1, d2]
  obtain ⟨ty, n, x⟩ := c
  simp only at h
  have h0 := h
  unfold okB at h0
  rcases okB_ty (c := ⟨ty, n, x⟩) h with h1 | ⟨h1, h2, h3⟩ | ⟨h1, h2, h3⟩ | ⟨h1, h2⟩
  · simp only at h1
    subst h1
    simp at h0
    obtain ⟨rfl, h0⟩ := h0
    obtain rfl := noneS (x := x) (by simpa using h0)
    simp [valL, rdN_one]
  · simp only at h1 h2 h3
    subst h1
    simp at h0
    obtain ⟨_, h0⟩ := h0
    obtain rfl := noneS (x := x) (by simpa using h0)
    obtain ⟨N, rfl⟩ : ∃ N : Nat, n = (N : Int) := ⟨n.toNat, by omega⟩
    have e : (UInt8.ofNat N).toNat = N := by rw [UInt8.toNat_ofNat', Nat.mod_eq_of_lt (by omega)]
    simp [valL, rdN_one, e]
  · simp only at h1 h2 h3
    subst h1
    simp at h0
    obtain ⟨_, h0⟩ := h0
    obtain rfl := noneS (x := x) (by simpa using h0)
    have e := rdN_six n.natAbs r (by omega)
    have hL := numL_length n.natAbs 6
    by_cases hn : n < 0
    · have hf : flagN (decide (n < 0)) = 1 := by simp [flagN, hn]
      have e2 : valL ⟨2, n, ⟨#[]⟩⟩ = 2 :: 1 :: numL n.natAbs 6 := by simp [valL, hf]
      rw [e2]
      simp only [List.cons_append, rdN_one, List.drop_succ_cons, List.drop_zero]
      rw [e.1]
      simp [hL]
      omega
    · have hf : flagN (decide (n < 0)) = 0 := by simp [flagN, hn]
      have e2 : valL ⟨2, n, ⟨#[]⟩⟩ = 2 :: 0 :: numL n.natAbs 6 := by simp [valL, hf]
      rw [e2]
      simp only [List.cons_append, rdN_one, List.drop_succ_cons, List.drop_zero]
      rw [e.1]
      simp [hL]
      omega
  · simp only at h1 h2
    subst h1
    simp at h0
    obtain ⟨rfl, _⟩ := h0
    have e2 : valL ⟨3, 0, x⟩ = 3 :: textL x := by simp [valL]
    have e3 : (UInt8.ofNat x.size).toNat = x.size := by rw [UInt8.toNat_ofNat', Nat.mod_eq_of_lt (by omega)]
    have hx : x.data.toList.length = x.size := by simp
    have hsp : spT x.size l (p + 1 + 1) = (x, p + 1 + 1 + x.size) := by
      unfold spT
      rw [e2, textL_cons] at hlen d2
      rw [if_pos (by simp at hlen; omega), d2]
      simp
    rw [e2]
    simp only [List.cons_append, rdN_one, List.drop_succ_cons, List.drop_zero]
    rw [textL_cons, List.cons_append, rdN_one, e3, hsp]
    simp
    omega
theorem spVs_row : ∀ (vs : List Vc) (l : List UInt8) (p : Nat) (r : List UInt8), l.drop p = vs.flatMap valL ++ r → (∀ c ∈ vs, okB c.ty c.n c.s = true) → (spVs vs.length l p).1 = vs
  | [], _, _, _, _, _ => rfl
  | c :: vs, l, p, r, hd, h => by
    have hd' : l.drop p = valL c ++ (vs.flatMap valL ++ r) := by rw [hd, List.flatMap_cons, List.append_assoc]
    have e := spV_val l p c _ hd' (h c (by simp))
    have hd2 : l.drop (p + (valL c).length) = vs.flatMap valL ++ r := by rw [← List.drop_drop, hd', List.drop_left]
    have ih := spVs_row vs l (p + (valL c).length) r hd2 fun x hx => h x (by simp [hx])
    show (spV l p).1 :: (spVs vs.length l (spV l p).2).1 = c :: vs
    rw [e]
    simp only
    rw [ih]
theorem spVs_rowL (us : List Vc) (h : okRow us) : (spVs (min (rdN 1 (rowL us)) 9) (rowL us) 1).1 = us := by
  have h1 : rdN 1 (rowL us) = us.length := by
    rw [rowL, rdN_one, UInt8.toNat_ofNat', Nat.mod_eq_of_lt (by have := h.1; omega)]
  rw [h1, Nat.min_eq_left (by have := h.1; omega)]
  exact spVs_row us (rowL us) 1 [] (by simp [rowL]) h.2
end Go.Proofs.YtiijahoheajppaaGreat

namespace Go.Proofs.YtiijahoheajppaaGreat
open Go.ChangeShapes Go.WideShapes Go.ChangeAt Go.RowKit

/-- A text with its length from a place on, and the place behind it. -/
def spX (l : List UInt8) (p : Nat) : ByteArray × Nat := spT (rdN 1 (l.drop p)) l (p + 1)
/-- Values, counted, from a place on. -/
def spR (l : List UInt8) (p : Nat) : List Vc × Nat := spVs (min (rdN 1 (l.drop p)) 9) l (p + 1)
/-- A column from a place on. -/
def spC (l : List UInt8) (p : Nat) : Cl × Nat :=
  (⟨(spX l p).1, (rdN 1 (l.drop (spX l p).2) : Int), decide (rdN 1 (l.drop ((spX l p).2 + 1)) = 1), decide (rdN 1 (l.drop ((spX l p).2 + 1 + 1)) = 1), (spV l ((spX l p).2 + 1 + 1 + 1)).1.ty, (spV l ((spX l p).2 + 1 + 1 + 1)).1.n, (spV l ((spX l p).2 + 1 + 1 + 1)).1.s⟩, (spV l ((spX l p).2 + 1 + 1 + 1)).2)
def spCs : Nat → List UInt8 → Nat → List Cl × Nat
  | 0, _, p => ([], p)
  | n + 1, l, p => ((spC l p).1 :: (spCs n l (spC l p).2).1, (spCs n l (spC l p).2).2)
def spKs : Nat → List UInt8 → Nat → List ByteArray × Nat
  | 0, _, p => ([], p)
  | n + 1, l, p => ((spX l p).1 :: (spKs n l (spX l p).2).1, (spKs n l (spX l p).2).2)
theorem drop_next {l a r : List UInt8} {p : Nat} (h : l.drop p = a ++ r) : l.drop (p + a.length) = r := by rw [← List.drop_drop, h, List.drop_left]
theorem drop_len {l a : List UInt8} {p : Nat} (h : l.drop p = a) (h1 : 1 ≤ a.length) : l.length = p + a.length := by
  have := congrArg List.length h
  rw [List.length_drop] at this
  omega
theorem spX_text (l : List UInt8) (p : Nat) (x : ByteArray) (r : List UInt8) (hd : l.drop p = textL x ++ r) (h : x.size ≤ 30) : spX l p = (x, p + (textL x).length) := by
  have hn : rdN 1 (l.drop p) = x.size := by rw [hd, textL, List.cons_append, rdN_one, UInt8.toNat_ofNat', Nat.mod_eq_of_lt (by omega)]
  have hlen := drop_len hd (by simp [textL])
  rw [List.length_append, textL_length] at hlen
  have d1 : l.drop (p + 1) = x.data.toList ++ r := by
    have := drop_next (a := [UInt8.ofNat x.size]) (r := x.data.toList ++ r) (by rw [hd]; simp [textL])
    simpa using this
  unfold spX
  rw [hn]
  unfold spT
  rw [if_pos (by omega), d1, textL_length]
  have hx : x.data.toList.length = x.size := by simp
  refine Prod.ext ?_ (by simp only; omega)
  simp only
  rw [List.take_append_of_le_length (by omega), List.take_of_length_le (by omega)]
theorem rdN_at (l : List UInt8) (p : Nat) (c : UInt8) (r : List UInt8) (hd : l.drop p = c :: r) : rdN 1 (l.drop p) = c.toNat ∧ l.drop (p + 1) = r := by
  refine ⟨by rw [hd, rdN_one], ?_⟩
  have := drop_next (a := [c]) (r := r) (by rw [hd]; rfl)
  simpa using this
theorem spC_col (l : List UInt8) (p : Nat) (c : Cl) (r : List UInt8) (hd : l.drop p = colL c ++ r) (h : c.tame) : spC l p = (c, p + (colL c).length) := by
  obtain ⟨⟨h1, h2, h3⟩, h4⟩ := h
  obtain ⟨nm, ty, nt, has, dt, dn, ds⟩ := c
  simp only at h1 h2 h3 h4
  obtain ⟨N, rfl⟩ : ∃ N : Nat, ty = (N : Int) := ⟨ty.toNat, by omega⟩
  have e0 : colL ⟨nm, (N : Int), nt, has, dt, dn, ds⟩ ++ r = textL nm ++ (UInt8.ofNat N :: flagN nt :: flagN has :: (valL ⟨dt, dn, ds⟩ ++ r)) := by simp [colL]
  rw [e0] at hd
  have e1 := spX_text l p nm _ hd h1
  have f1 := drop_next hd
  obtain ⟨g1, f2⟩ := rdN_at _ _ _ _ f1
  obtain ⟨g2, f3⟩ := rdN_at _ _ _ _ f2
  obtain ⟨g3, f4⟩ := rdN_at _ _ _ _ f3
  have e4 := spV_val l _ ⟨dt, dn, ds⟩ r f4 h3
  have e2 : (UInt8.ofNat N).toNat = N := by rw [UInt8.toNat_ofNat', Nat.mod_eq_of_lt (by omega)]
  have e3 : ∀ b : Bool, decide ((flagN b).toNat = 1) = b := fun b => by cases b <;> rfl
  unfold spC
  rw [e1]
  simp only [g1, g2, g3, e2, e3, e4]
  refine Prod.ext rfl ?_
  simp [colL]
  omega
theorem spCs_flat : ∀ (cs : List Cl) (l : List UInt8) (p : Nat) (r : List UInt8), l.drop p = cs.flatMap colL ++ r → (∀ c ∈ cs, c.tame) → spCs cs.length l p = (cs, p + (cs.flatMap colL).length)
  | [], _, _, _, _, _ => rfl
  | c :: cs, l, p, r, hd, h => by
    have hd' : l.drop p = colL c ++ (cs.flatMap colL ++ r) := by rw [hd, List.flatMap_cons, List.append_assoc]
    have e := spC_col l p c _ hd' (h c (by simp))
    have ih := spCs_flat cs l (p + (colL c).length) r (drop_next hd') fun x hx => h x (by simp [hx])
    show ((spC l p).1 :: (spCs cs.length l (spC l p).2).1, (spCs cs.length l (spC l p).2).2) = _
    rw [e]
    simp only
    rw [ih]
    simp [Nat.add_assoc]
theorem spKs_flat : ∀ (ks : List ByteArray) (l : List UInt8) (p : Nat) (r : List UInt8), l.drop p = ks.flatMap textL ++ r → (∀ s ∈ ks, s.size ≤ 30) → spKs ks.length l p = (ks, p + (ks.flatMap textL).length)
  | [], _, _, _, _, _ => rfl
  | s :: ks, l, p, r, hd, h => by
    have hd' : l.drop p = textL s ++ (ks.flatMap textL ++ r) := by rw [hd, List.flatMap_cons, List.append_assoc]
    have e := spX_text l p s _ hd' (h s (by simp))
    have ih := spKs_flat ks l (p + (textL s).length) r (drop_next hd') fun x hx => h x (by simp [hx])
    show ((spX l p).1 :: (spKs ks.length l (spX l p).2).1, (spKs ks.length l (spX l p).2).2) = _
    rw [e]
    simp only
    rw [ih]
    simp [Nat.add_assoc]
theorem spVs_flat : ∀ (vs : List Vc) (l : List UInt8) (p : Nat) (r : List UInt8), l.drop p = vs.flatMap valL ++ r → (∀ c ∈ vs, okB c.ty c.n c.s = true) → spVs vs.length l p = (vs, p + (vs.flatMap valL).length)
  | [], _, _, _, _, _ => rfl
  | c :: vs, l, p, r, hd, h => by
    have hd' : l.drop p = valL c ++ (vs.flatMap valL ++ r) := by rw [hd, List.flatMap_cons, List.append_assoc]
    have e := spV_val l p c _ hd' (h c (by simp))
    have ih := spVs_flat vs l (p + (valL c).length) r (drop_next hd') fun x hx => h x (by simp [hx])
    show ((spV l p).1 :: (spVs vs.length l (spV l p).2).1, (spVs vs.length l (spV l p).2).2) = _
    rw [e]
    simp only
    rw [ih]
    simp [Nat.add_assoc]
theorem spR_row (l : List UInt8) (p : Nat) (vs : List Vc) (r : List UInt8) (hd : l.drop p = rowL vs ++ r) (h : okRow vs) : spR l p = (vs, p + (rowL vs).length) := by
  obtain ⟨g1, f1⟩ := rdN_at l p (UInt8.ofNat vs.length) (vs.flatMap valL ++ r) (by rw [hd]; rfl)
  have hl := h.1
  unfold spR
  rw [g1, UInt8.toNat_ofNat', Nat.mod_eq_of_lt (by omega), Nat.min_eq_left (by omega), spVs_flat vs l (p + 1) r f1 h.2]
  simp [rowL]
  omega
/-- Texts, counted, from a place on. -/
def spW (l : List UInt8) (p : Nat) : List ByteArray × Nat := spKs (min (rdN 1 (l.drop p)) 9) l (p + 1)
/-- Columns, counted, from a place on. -/
def spK (l : List UInt8) (p : Nat) : List Cl × Nat := spCs (min (rdN 1 (l.drop p)) 9) l (p + 1)
/-- A change of a table from a place on. -/
def spD (tb : ByteArray) (l : List UInt8) (p : Nat) : Dc × Nat :=
  (⟨(rdN 1 (l.drop p) : Int), tb, (spK l (p + 1)).1, (spW l (spK l (p + 1)).2).1, (spX l (spW l (spK l (p + 1)).2).2).1, (spX l (spX l (spW l (spK l (p + 1)).2).2).2).1⟩, (spX l (spX l (spW l (spK l (p + 1)).2).2).2).2)
theorem spD_ddl (l : List UInt8) (p : Nat) (d : Dc) (r : List UInt8) (hd : l.drop p = ddlL d ++ r) (h : d.tame) : (spD d.table l p).1 = d := by
  obtain ⟨⟨h0, h1, h2, h3, h4, h5, h6⟩, h7, h8⟩ := h
  obtain ⟨kd, tb, cs, ks, nm, to⟩ := d
  simp only at *
  obtain ⟨N, rfl⟩ : ∃ N : Nat, kd = (N : Int) := ⟨kd.toNat, by omega⟩
  have e0 : ddlL ⟨(N : Int), tb, cs, ks, nm, to⟩ ++ r = UInt8.ofNat N :: UInt8.ofNat cs.length :: (cs.flatMap colL ++ (UInt8.ofNat ks.length :: (ks.flatMap textL ++ (textL nm ++ (textL to ++ r))))) := by simp [ddlL]
  rw [e0] at hd
  have e2 : (UInt8.ofNat N).toNat = N := by rw [UInt8.toNat_ofNat', Nat.mod_eq_of_lt (by omega)]
  obtain ⟨g1, f1⟩ := rdN_at _ _ _ _ hd
  obtain ⟨g2, f2⟩ := rdN_at _ _ _ _ f1
  have e3 : spK l (p + 1) = (cs, p + 1 + 1 + (cs.flatMap colL).length) := by
    unfold spK
    rw [g2, UInt8.toNat_ofNat', Nat.mod_eq_of_lt (by omega), Nat.min_eq_left (by omega)]
    exact spCs_flat cs l (p + 1 + 1) _ f2 fun c hc => ⟨h2 c hc, h8 c hc⟩
  have f3 := drop_next f2
  obtain ⟨g4, f4⟩ := rdN_at _ _ _ _ f3
  have e4 : spW l (p + 1 + 1 + (cs.flatMap colL).length) = (ks, p + 1 + 1 + (cs.flatMap colL).length + 1 + (ks.flatMap textL).length) := by
    unfold spW
    rw [g4, UInt8.toNat_ofNat', Nat.mod_eq_of_lt (by omega), Nat.min_eq_left (by omega)]
    exact spKs_flat ks l _ _ f4 h4
  have f5 := drop_next f4
  have e5 := spX_text l _ nm _ f5 h5
  have f6 := drop_next f5
  have e6 := spX_text l _ to _ f6 h6
  unfold spD
  rw [e3]
  simp only
  rw [e4]
  simp only
  rw [e5]
  simp only
  rw [e6, g1, e2]
/-- A statement as the given reader takes it. -/
def spS (l : List UInt8) : Sc :=
  ⟨(rdN 1 (l.drop 1) : Int), (spX l 2).1, (spR l (spX l 2).2).1, (spR l (spR l (spX l 2).2).2).1, if rdN 1 (l.drop 1) = 5 then (spD (spX l 2).1 l (spR l (spR l (spX l 2).2).2).2).1 else Dc.zero⟩
theorem spS_stmt (s : Sc) (h : s.right) : spS (stmtL s) = s := by
  obtain ⟨h1, h2, h3, h4, h5, _⟩ := Sc.right_small h
  have hT := Sc.right_tame h
  have hZ := Sc.right_zero h
  obtain ⟨kd, tb, key, row, dd⟩ := s
  simp only at *
  obtain ⟨N, rfl⟩ : ∃ N : Nat, kd = (N : Int) := ⟨kd.toNat, by omega⟩
  obtain ⟨Z, hZd⟩ : ∃ Z, Z = (if (N : Int) = 5 then ddlL dd else []) := ⟨_, rfl⟩
  have e0 : stmtL ⟨(N : Int), tb, key, row, dd⟩ = 83 :: UInt8.ofNat N :: (textL tb ++ (rowL key ++ (rowL row ++ Z))) := by rw [hZd]; simp [stmtL]
  have e2 : (UInt8.ofNat N).toNat = N := by rw [UInt8.toNat_ofNat', Nat.mod_eq_of_lt (by omega)]
  generalize stmtL ⟨(N : Int), tb, key, row, dd⟩ = l at e0 ⊢
  have f0 : l.drop 1 = UInt8.ofNat N :: (textL tb ++ (rowL key ++ (rowL row ++ Z))) := by rw [e0]; rfl
  obtain ⟨g1, f1⟩ := rdN_at _ _ _ _ f0
  have e3 := spX_text l (1 + 1) tb _ f1 (by omega)
  have f2 := drop_next f1
  have e4 := spR_row l _ key _ f2 h4
  have f3 := drop_next f2
  have e5 := spR_row l _ row _ f3 h5
  have f4 := drop_next f3
  unfold spS
  rw [show (2 : Nat) = 1 + 1 from rfl, e3]
  simp only
  rw [e4]
  simp only
  rw [e5, g1, e2]
  simp only
  by_cases h : N = 5
  · subst h
    have hz : Z = ddlL dd ++ [] := by rw [hZd]; simp
    rw [hz] at f4
    have hd := spD_ddl l _ dd [] f4 (hT rfl).1
    have ht : dd.table = tb := (hT rfl).2
    subst ht
    rw [if_pos rfl, hd]
  · rw [if_neg h, ← hZ (by omega)]
theorem spX_size (l : List UInt8) (p : Nat) : (spX l p).1.size ≤ 255 := by
  have h := rdN_byte (l.drop p)
  unfold spX spT
  split
  · show ((l.drop (p + 1)).take (rdN 1 (l.drop p))).toArray.size ≤ 255
    simp; omega
  · exact Nat.zero_le _
theorem spV_fit (l : List UInt8) (p : Nat) : (spV l p).1.s.size ≤ 255 := by
  unfold spV
  split
  · exact Nat.zero_le _
  · split
    · exact Nat.zero_le _
    · split
      · have h := rdN_byte (l.drop (p + 1))
        simp only
        unfold spT
        split
        · show ((l.drop (p + 1 + 1)).take (rdN 1 (l.drop (p + 1)))).toArray.size ≤ 255
          simp; omega
        · exact Nat.zero_le _
      · exact Nat.zero_le _
theorem spVs_fit : ∀ n l p, ∀ c ∈ (spVs n l p).1, c.s.size ≤ 255
  | 0, _, _, c, h => by simp [spVs] at h
  | n + 1, l, p, c, h => by
    simp [spVs] at h
    rcases h with rfl | h
    · exact spV_fit l p
    · exact spVs_fit n _ _ c h
theorem spVs_len : ∀ n l p, (spVs n l p).1.length = n
  | 0, _, _ => rfl
  | n + 1, l, p => by simp [spVs, spVs_len n]
theorem spCs_len : ∀ n l p, (spCs n l p).1.length = n
  | 0, _, _ => rfl
  | n + 1, l, p => by simp [spCs, spCs_len n]
theorem spKs_len : ∀ n l p, (spKs n l p).1.length = n
  | 0, _, _ => rfl
  | n + 1, l, p => by simp [spKs, spKs_len n]
theorem spCs_fit : ∀ n l p, ∀ c ∈ (spCs n l p).1, c.name.size ≤ 255 ∧ c.ds.size ≤ 255
  | 0, _, _, c, h => by simp [spCs] at h
  | n + 1, l, p, c, h => by
    simp [spCs] at h
    rcases h with rfl | h
    · exact ⟨spX_size l p, spV_fit l _⟩
    · exact spCs_fit n _ _ c h
theorem spKs_fit : ∀ n l p, ∀ s ∈ (spKs n l p).1, s.size ≤ 255
  | 0, _, _, s, h => by simp [spKs] at h
  | n + 1, l, p, s, h => by
    simp [spKs] at h
    rcases h with rfl | h
    · exact spX_size l p
    · exact spKs_fit n _ _ s h
theorem spR_fit (l : List UInt8) (p : Nat) : vfit (spR l p).1 ∧ (spR l p).1.length ≤ 1048576 := by
  have hm : (255 : Nat) ≤ maxLen := by unfold maxLen; omega
  unfold spR
  refine ⟨fun c hc => Nat.le_trans (spVs_fit _ _ _ c hc) hm, ?_⟩
  rw [spVs_len]; omega
theorem spD_fit (tb : ByteArray) (l : List UInt8) (p : Nat) (ht : tb.size ≤ 255) : (spD tb l p).1.fit ∧ (spD tb l p).1.few := by
  have hm : (255 : Nat) ≤ maxLen := by unfold maxLen; omega
  unfold spD
  simp only
  generalize hX : spX l (spW l (spK l (p + 1)).2).2 = X
  have hx := spX_size l (spW l (spK l (p + 1)).2).2
  rw [hX] at hx
  have hy := spX_size l X.2
  generalize hW : spW l (spK l (p + 1)).2 = W
  have hw1 : (∀ s ∈ W.1, s.size ≤ 255) ∧ W.1.length ≤ 9 := by
    rw [← hW]
    unfold spW
    exact ⟨spKs_fit _ _ _, by rw [spKs_len]; omega⟩
  generalize hK : spK l (p + 1) = K
  have hk1 : (∀ c ∈ K.1, c.name.size ≤ 255 ∧ c.ds.size ≤ 255) ∧ K.1.length ≤ 9 := by
    rw [← hK]
    unfold spK
    exact ⟨spCs_fit _ _ _, by rw [spCs_len]; omega⟩
  exact ⟨⟨Nat.le_trans ht hm, fun c hc => ⟨Nat.le_trans (hk1.1 c hc).1 hm, Nat.le_trans (hk1.1 c hc).2 hm⟩, fun s hs => Nat.le_trans (hw1.1 s hs) hm, Nat.le_trans hx hm, Nat.le_trans hy hm⟩, Nat.le_trans hk1.2 (by omega), Nat.le_trans hw1.2 (by omega)⟩
theorem spS_fit (l : List UInt8) : (spS l).fit ∧ (spS l).few := by
  have hm : (255 : Nat) ≤ maxLen := by unfold maxLen; omega
  have hz : Dc.zero.fit ∧ Dc.zero.few := ⟨⟨Nat.zero_le _, by simp, by simp, Nat.zero_le _, Nat.zero_le _⟩, by simp, by simp⟩
  have h1 := spX_size l 2
  have h2 := spR_fit l (spX l 2).2
  have h3 := spR_fit l (spR l (spX l 2).2).2
  have h4 := spD_fit (spX l 2).1 l (spR l (spR l (spX l 2).2).2).2 h1
  unfold spS
  generalize spR l (spR l (spX l 2).2).2 = A at h3 h4 ⊢
  generalize spR l (spX l 2).2 = B at h2 ⊢
  generalize spX l 2 = C at h1 h4 ⊢
  by_cases h : rdN 1 (l.drop 1) = 5
  · rw [if_pos h]
    exact ⟨⟨Nat.le_trans h1 hm, h2.1, h3.1, h4.1⟩, h2.2, h3.2, h4.2⟩
  · rw [if_neg h]
    exact ⟨⟨Nat.le_trans h1 hm, h2.1, h3.1, hz.1⟩, h2.2, h3.2, hz.2⟩
theorem spX_le (l : List UInt8) (p : Nat) : (spX l p).2 ≤ p + 300 ∨ (spX l p).2 ≤ l.length + 1 := by
  have h := rdN_byte (l.drop p)
  unfold spX spT
  split
  · exact Or.inl (by simp only; omega)
  · exact Or.inr (Nat.le_refl _)
theorem spVs_le : ∀ (n : Nat) (l : List UInt8) (p : Nat), (spVs n l p).2 ≤ max p (l.length + 1) + 300 * n
  | 0, l, p => by show p ≤ _; omega
  | n + 1, l, p => by
    have h1 := spV_le l p
    have h2 := spVs_le n l (spV l p).2
    show (spVs n l (spV l p).2).2 ≤ _
    omega
theorem spR_le (l : List UInt8) (p : Nat) : (spR l p).2 ≤ max (p + 1) (l.length + 1) + 2700 := by
  have := spVs_le (min (rdN 1 (l.drop p)) 9) l (p + 1)
  unfold spR
  omega

set_option maxRecDepth 100000 in
set_option maxHeartbeats 1000000 in
/-- spec.l06Vals, from any place -/
theorem l06Vals_at (R p : Nat) (l : List UInt8) (w : World) (h : SdB w R l p) (hl : l.length ≤ 1048576) (hp : p ≤ 2000000) :
    Calls Tryz.prog 41 #[.pointer (some ⟨R, 0, none⟩)] w fun e w' => ∃ v, e = .returned v ∧ Got w' w.heap.size 128 3 v ((spR l p).1.map Vc.cells) ∧ SdB w' R l (spR l p).2 ∧ Turns (· = R) w w' := by
  unfold spR
  have HN : Hid (∀ u : World, SdB u R l p → Calls Tryz.prog 39 #[.pointer (some ⟨R, 0, none⟩), .int .i64 1] u fun e w' => e = .returned (.int .i64 (rdN 1 (l.drop p) : Int)) ∧ SdB w' R l (p + 1) ∧ Turns (· = R) u w') := fun u hu => l06Take_any R 1 p l u hu (by omega) (by omega) (by omega)
  have HR : Hid (SdB w R l p) := h
  have hRw : R < w.heap.size := by obtain ⟨_, _, _, ho, _⟩ := h; exact ho.lt
  have hn256 := rdN_byte (l.drop p)
  clear h
  generalize rdN 1 (l.drop p) = N at HN hn256 ⊢
  go_enter Tryz.func41, Tryz.ntmps41
  go_wp2_with fail
  refine (HN.out _ (HR.out.on (by repeat (first | with_reducible exact Below.refl _ _ | with_reducible assumption | with_reducible refine ch_alloc ?_ _ | with_reducible refine Below.drew ?_ | with_reducible refine below_draws _ ?_ | (with_reducible refine Below.setCell ?_ ?_ _; rotate_left; focus (first | with_reducible exact Nat.le_refl _ | (simp; done) | (simp; omega) | (simp at *; omega))) | with_reducible refine ch_trans ?_ (by with_reducible assumption))))).mono ?_
  rintro e w1 ⟨rfl, hd, ht⟩
  have HD : Hid (SdB w1 R l (p + 1)) := hd
  have HG : Hid (Got w1 w.heap.size 128 3 (.slice (some ⟨w.heap.size, 0, none⟩) 0 0) (([] : List Vc).map Vc.cells)) := (Got.empty w 128 3).turns ht fun c h => by have h : c = R := h; omega
  have HT : Hid (Turns (· = R) w w1) := ((Turns.refl (· = R) w).below (ch_alloc (Below.refl _ _) _)).trans ht
  clear hd ht
  go_wp2
  go_loopw [3, 5] (fun q i wr => ∃ (k : Nat) (vs : List Vc) (cur : Nat), k ≤ min N 9 ∧ i = .int .i64 (k : Int) ∧ vs.length = k ∧ cur ≤ 2048600 + 300 * k ∧ Hid (vs ++ (spVs (min N 9 - k) l cur).1 = (spVs (min N 9) l (p + 1)).1 ∧ (spVs (min N 9 - k) l cur).2 = (spVs (min N 9) l (p + 1)).2) ∧ Hid (SdB wr R l cur) ∧ Hid (Turns (· = R) w wr) ∧ Hid (Got wr w.heap.size 128 3 q (vs.map Vc.cells))) (fun _ i _ => 10 - (intOf i).toNat)
  case atStart => exact ⟨0, [], p + 1, Nat.zero_le _, rfl, rfl, by omega, ⟨rfl, rfl⟩, HD, HT, HG⟩
  case round =>
    clear HD HT HG
    obtain ⟨k, vs, cur, hk, rfl, hvk, hcur, HE, HD, HT, HG⟩ := hrel
    obtain ⟨a1, n1, c1, rfl, hg⟩ := HG.out.lit2
    have HG1 : Hid (Got wr w.heap.size 128 3 (.slice a1 n1 c1) (vs.map Vc.cells)) := hg
    have hk9 : k ≤ 9 := by omega
    clear hg HG
    by_cases hlt : k < min N 9
    · have hlti : (k : Int) < N := by omega
      have hlt8 : (k : Int) ≤ 8 := by omega
      have HVA : Hid (Calls Tryz.prog 78 #[.pointer (some ⟨R, 0, none⟩)] wr fun e w' => e = .returned (.agg (spV l cur).1.cells) ∧ SdB w' R l (spV l cur).2 ∧ Turns (· = R) wr w') := l06Val_any R cur l wr HD.out (by omega) hl
      have HE' : Hid ((vs ++ [(spV l cur).1]) ++ (spVs (min N 9 - (k + 1)) l (spV l cur).2).1 = (spVs (min N 9) l (p + 1)).1 ∧ (spVs (min N 9 - (k + 1)) l (spV l cur).2).2 = (spVs (min N 9) l (p + 1)).2) := by
        refine ⟨?_, ?_⟩
        · rw [← HE.out.1, show min N 9 - k = (min N 9 - (k + 1)) + 1 by omega, List.append_assoc]; rfl
        · rw [← HE.out.2, show min N 9 - k = (min N 9 - (k + 1)) + 1 by omega]; rfl
      have hnx : (spV l cur).2 ≤ 2048600 + 300 * (k + 1) := by have := spV_le l cur; omega
      generalize (spV l cur).2 = nxt at HVA HE' hnx
      generalize (spV l cur).1 = c at HVA HE'
      obtain ⟨ty, n, x⟩ := c
      go_wp2_with fail
      refine HVA.out.mono ?_
      rintro e w2 ⟨rfl, hd, ht⟩
      have HD2 : Hid (SdB w2 R l nxt) := hd
      have HT2 : Hid (Turns (· = R) w w2) := HT.out.trans ht
      have HG2 : Hid (Got w2 w.heap.size 128 3 (.slice a1 n1 c1) (vs.map Vc.cells)) := HG1.out.turns ht fun c h => by have h : c = R := h; omega
      have hs2 : w.heap.size ≤ w2.heap.size := HT2.out.size
      clear hd ht
      go_wp2_with (at_builtin; refine app_one rfl (.tmp 18) (.tmp 21) rfl Tryz.underlying40 infoVal rfl (by decide) (by decide) w.heap.size _ (vs.map Vc.cells) rfl (HG2.out.on (ch_alloc (Below.refl _ _) _)) w2.heap.size 1 #[.int .i64 ty, .int .i64 n, .string x] rfl (Loc.new _ _ _) rfl (val_one ⟨ty, n, x⟩) (by simp; omega) (by simp; omega) ?_; intro v3 w3 hg3 hb3)
      have HG3 : Hid (Got w3 w.heap.size 128 3 v3 ((vs ++ [(⟨ty, n, x⟩ : Vc)]).map Vc.cells)) := by
        show Got _ _ _ _ _ _
        rw [List.map_append]; exact hg3
      have hb23 : Below w.heap.size w2 w3 := (Below.alloc (Below.refl _ _) hs2 _).trans hb3
      have HD3 : Hid (SdB w3 R l nxt) := HD2.out.low hRw hb23
      have HT3 : Hid (Turns (· = R) w w3) := HT2.out.low hb23
      clear hg3 hb3 hb23
      go_round
      case rel => exact ⟨k + 1, vs ++ [⟨ty, n, x⟩], nxt, by omega, by go_num, by simp; omega, hnx, HE', HD3, HT3, HG3⟩
      case measure => simp [intOf]; omega
    · by_cases hN : k < N
      · have hlti : (k : Int) < N := by omega
        have hlt8 : ¬ (k : Int) ≤ 8 := by omega
        have HF : Hid (vs = (spVs (min N 9) l (p + 1)).1 ∧ cur = (spVs (min N 9) l (p + 1)).2) := by
          have := HE.out
          rw [show min N 9 - k = 0 by omega, spVs] at this
          show vs = _ ∧ _
          simpa using this
        go_wp2
        go_ret
        exact ⟨_, rfl, by rw [← HF.out.1]; exact HG1.out, by rw [← HF.out.2]; exact HD.out, HT.out⟩
      · have hlti : ¬ (k : Int) < N := by omega
        have HF : Hid (vs = (spVs (min N 9) l (p + 1)).1 ∧ cur = (spVs (min N 9) l (p + 1)).2) := by
          have := HE.out
          rw [show min N 9 - k = 0 by omega, spVs] at this
          show vs = _ ∧ _
          simpa using this
        go_wp2
        go_ret
        exact ⟨_, rfl, by rw [← HF.out.1]; exact HG1.out, by rw [← HF.out.2]; exact HD.out, HT.out⟩
end Go.Proofs.YtiijahoheajppaaGreat

namespace Go.Proofs.YtiijahoheajppaaGreat
open Go.ChangeShapes Go.WideShapes Go.ChangeAt Go.RowKit

/-- A part from a place on. -/
noncomputable def spP (l : List UInt8) (p : Nat) : Ptc × Nat :=
  (⟨stOf (spT (rdN 2 (l.drop p)) l (p + 2)).1.data.toList, (spW l (spT (rdN 2 (l.drop p)) l (p + 2)).2).1, (spW l (spW l (spT (rdN 2 (l.drop p)) l (p + 2)).2).2).1⟩, (spW l (spW l (spT (rdN 2 (l.drop p)) l (p + 2)).2).2).2)
noncomputable def spPs : Nat → List UInt8 → Nat → List Ptc × Nat
  | 0, _, p => ([], p)
  | n + 1, l, p => ((spP l p).1 :: (spPs n l (spP l p).2).1, (spPs n l (spP l p).2).2)
theorem spPs_len : ∀ n l p, (spPs n l p).1.length = n
  | 0, _, _ => rfl
  | n + 1, l, p => by simp [spPs, spPs_len n]
/-- A batch, behind one byte. -/
noncomputable def spB (l : List UInt8) : Btc := ⟨(rdN 2 (l.drop 1) : Int), (rdN 2 (l.drop (1 + 2)) : Int), (spPs (min (rdN 1 (l.drop (1 + 2 + 2))) 61) l (1 + 2 + 2 + 1)).1⟩
theorem spW_words (l : List UInt8) (p : Nat) (ks : List ByteArray) (r : List UInt8) (hd : l.drop p = wordsL ks ++ r) (h : fewW ks) : spW l p = (ks, p + (wordsL ks).length) := by
  have hd' : l.drop p = UInt8.ofNat ks.length :: (ks.flatMap textL ++ r) := by rw [hd]; simp [wordsL]
  obtain ⟨g1, f1⟩ := rdN_at l p _ _ hd'
  have hl := h.1
  unfold spW
  rw [g1, UInt8.toNat_ofNat', Nat.mod_eq_of_lt (by omega), Nat.min_eq_left (by omega), spKs_flat ks l (p + 1) r f1 fun s hs => Nat.le_trans (fewW_size h s hs) (by omega)]
  simp [wordsL]
  omega
theorem spP_part (l : List UInt8) (p : Nat) (t : Ptc) (r : List UInt8) (hd : l.drop p = partL t ++ r) (h : t.right) : spP l p = (t, p + (partL t).length) := by
  have hsl := stmtL_length h.1
  have hd' : l.drop p = numL (stmtL t.st).length 2 ++ (stmtL t.st ++ (wordsL t.cols ++ (wordsL t.keys ++ r))) := by rw [hd]; simp [partL]
  obtain ⟨e1, _⟩ := rdN_two (stmtL t.st).length (stmtL t.st ++ (wordsL t.cols ++ (wordsL t.keys ++ r))) (by omega)
  have f1 := drop_next hd'
  rw [numL_length] at f1
  have hlen := drop_len hd' (by simp [numL_length]; omega)
  have e2 : spT (stmtL t.st).length l (p + 2) = (⟨(stmtL t.st).toArray⟩, p + 2 + (stmtL t.st).length) := by
    unfold spT
    rw [if_pos (by simp only [List.length_append, numL_length] at hlen; omega), f1, List.take_left]
  have f2 := drop_next f1
  have e3 := spW_words l _ t.cols _ f2 h.2.1
  have f3 := drop_next f2
  have e4 := spW_words l _ t.keys _ f3 h.2.2
  have e5 := stOf_stmt t.st h.1
  unfold spP
  rw [hd', e1, e2]
  simp only
  rw [e3]
  simp only
  rw [e4, e5]
  refine Prod.ext rfl ?_
  simp [partL, numL_length]
  omega
theorem spPs_flat : ∀ (ts : List Ptc) (l : List UInt8) (p : Nat) (r : List UInt8), l.drop p = ts.flatMap partL ++ r → (∀ t ∈ ts, t.right) → spPs ts.length l p = (ts, p + (ts.flatMap partL).length)
  | [], _, _, _, _, _ => rfl
  | t :: ts, l, p, r, hd, h => by
    have hd' : l.drop p = partL t ++ (ts.flatMap partL ++ r) := by rw [hd, List.flatMap_cons, List.append_assoc]
    have e := spP_part l p t _ hd' (h t (by simp))
    have ih := spPs_flat ts l (p + (partL t).length) r (drop_next hd') fun x hx => h x (by simp [hx])
    show ((spP l p).1 :: (spPs ts.length l (spP l p).2).1, (spPs ts.length l (spP l p).2).2) = _
    rw [e]
    simp only
    rw [ih]
    simp [Nat.add_assoc]
/-- A right batch is read as it was written. -/
theorem spB_bat (t : Btc) (h : t.right) : spB (batL t) = t := by
  obtain ⟨⟨h1, h2, h3, h4⟩, h60, hp⟩ := h
  have hpr : ∀ p ∈ t.parts, p.right := fun x hx => by
    obtain ⟨i, hi, rfl⟩ := List.getElem_of_mem hx
    exact hp i hi
  obtain ⟨lsn, prev, ts⟩ := t
  simp only at *
  obtain ⟨N, rfl⟩ : ∃ N : Nat, lsn = (N : Int) := ⟨lsn.toNat, by omega⟩
  obtain ⟨P, rfl⟩ : ∃ P : Nat, prev = (P : Int) := ⟨prev.toNat, by omega⟩
  obtain ⟨S, hS⟩ : ∃ S, S = numL (sumL (batB ⟨(N : Int), (P : Int), ts⟩)) 3 := ⟨_, rfl⟩
  have e0 : batL ⟨(N : Int), (P : Int), ts⟩ = [80] ++ (numL N 2 ++ (numL P 2 ++ (UInt8.ofNat ts.length :: (ts.flatMap partL ++ S)))) := by
    unfold batL
    rw [← hS]
    simp [batB]
  generalize batL ⟨(N : Int), (P : Int), ts⟩ = l at e0
  have f0 : l.drop 1 = numL N 2 ++ (numL P 2 ++ (UInt8.ofNat ts.length :: (ts.flatMap partL ++ S))) := by rw [e0]; rfl
  have f1 := drop_next f0
  rw [numL_length] at f1
  have f2 := drop_next f1
  rw [numL_length] at f2
  obtain ⟨e1, _⟩ := rdN_two N (numL P 2 ++ (UInt8.ofNat ts.length :: (ts.flatMap partL ++ S))) (by omega)
  obtain ⟨e3, _⟩ := rdN_two P (UInt8.ofNat ts.length :: (ts.flatMap partL ++ S)) (by omega)
  obtain ⟨g1, f3⟩ := rdN_at l _ _ _ f2
  have e6 := spPs_flat ts l _ S f3 hpr
  unfold spB
  rw [g1, f0, f1, e1, e3, UInt8.toNat_ofNat', Nat.mod_eq_of_lt (by omega), Nat.min_eq_left (by omega), e6]
theorem spW_fit (l : List UInt8) (p : Nat) : (∀ s ∈ (spW l p).1, s.size ≤ maxLen) ∧ (spW l p).1.length ≤ 1048576 := by
  have hm : (255 : Nat) ≤ maxLen := by unfold maxLen; omega
  exact ⟨fun s hs => Nat.le_trans (spKs_fit _ _ _ s hs) hm, by unfold spW; rw [spKs_len]; omega⟩
theorem spP_fit (l : List UInt8) (p : Nat) : (spP l p).1.fit ∧ (spP l p).1.few := by
  obtain ⟨A, hA⟩ : ∃ A, A = spT (rdN 2 (l.drop p)) l (p + 2) := ⟨_, rfl⟩
  unfold spP
  rw [← hA]
  have h1 := stOf_fit A.1.data.toList
  have h2 := spW_fit l A.2
  have h3 := spW_fit l (spW l A.2).2
  generalize stOf A.1.data.toList = s at h1 ⊢
  generalize spW l (spW l A.2).2 = Y at h3 ⊢
  generalize spW l A.2 = X at h2 ⊢
  exact ⟨⟨h1.1, h2.1, h3.1⟩, h1.2, h2.2, h3.2⟩
theorem spPs_fit : ∀ n l p, ∀ t ∈ (spPs n l p).1, t.fit ∧ t.few
  | 0, _, _, t, h => by simp [spPs] at h
  | n + 1, l, p, t, h => by
    simp [spPs] at h
    rcases h with rfl | h
    · exact spP_fit l p
    · exact spPs_fit n _ _ t h
theorem spB_fit (l : List UInt8) : (spB l).fit ∧ (spB l).few := by
  refine ⟨fun t h => (spPs_fit _ _ _ t h).1, ?_, fun t h => (spPs_fit _ _ _ t h).2⟩
  show (spPs _ _ _).1.length ≤ _
  rw [spPs_len]; omega

set_option maxRecDepth 100000 in
set_option maxHeartbeats 2000000 in
/-- spec.l09Take -/
theorem l09Take_any (R p : Nat) (l : List UInt8) (w : World) (h : SdB w R l p) (hp : p ≤ 100000000) (hl : l.length ≤ 1048576) :
    Calls Tryz.prog 56 #[.pointer (some ⟨R, 0, none⟩)] w fun e w' => ∃ v, e = .returned v ∧ Got w' w.heap.size 9 1 v ((spW l p).1.map strX) ∧ SdB w' R l (spW l p).2 ∧ Turns (· = R) w w' := by
  have hRw : R < w.heap.size := by obtain ⟨_, _, _, ho, _⟩ := h; exact ho.lt
  have HN : Hid (∀ u : World, SdB u R l p → Calls Tryz.prog 39 #[.pointer (some ⟨R, 0, none⟩), .int .i64 1] u fun e w' => e = .returned (.int .i64 (rdN 1 (l.drop p) : Int)) ∧ SdB w' R l (p + 1) ∧ Turns (· = R) u w') := fun u hu => l06Take_any R 1 p l u hu (by omega) (by omega) (by omega)
  have HN0 : Hid (∀ (u : World) (cu : Nat), SdB u R l cu → cu ≤ 200000000 → Calls Tryz.prog 39 #[.pointer (some ⟨R, 0, none⟩), .int .i64 1] u fun e w' => e = .returned (.int .i64 (rdN 1 (l.drop cu) : Int)) ∧ SdB w' R l (cu + 1) ∧ Turns (· = R) u w') := fun u cu hu hc => l06Take_any R 1 cu l u hu (by omega) (by omega) (by omega)
  have HX0 : Hid (∀ (u : World) (cu : Nat), SdB u R l (cu + 1) → cu ≤ 200000000 → Calls Tryz.prog 40 #[.pointer (some ⟨R, 0, none⟩), .int .i64 (rdN 1 (l.drop cu) : Int)] u fun e w' => e = .returned (.string (spX l cu).1) ∧ SdB w' R l (spX l cu).2 ∧ Turns (· = R) u w') := fun u cu hu hc => l06Text_any R _ (cu + 1) l u hu (by have := rdN_byte (l.drop cu); omega) (by omega) hl
  have hN : rdN 1 (l.drop p) < 256 := rdN_byte _
  have hb0 : Below w.heap.size w (w.alloc (.cells #[] 9)) := (by repeat (first | with_reducible exact Below.refl _ _ | with_reducible assumption | with_reducible refine ch_alloc ?_ _ | with_reducible refine Below.drew ?_ | with_reducible refine below_draws _ ?_ | (with_reducible refine Below.setCell ?_ ?_ _; rotate_left; focus (first | with_reducible exact Nat.le_refl _ | (simp; done) | (simp; omega) | (simp at *; omega))) | with_reducible refine ch_trans ?_ (by with_reducible assumption)))
  have HS0 : Hid (SdB (w.alloc (.cells #[] 9)) R l p) := h.on hb0
  have HG0 : Got (w.alloc (.cells #[] 9)) w.heap.size 9 1 (.slice (some ⟨w.heap.size, 0, none⟩) 0 0) [] := Got.emptyAt _ _ _ rfl
  have HT0 : Turns (· = R) w (w.alloc (.cells #[] 9)) := (Turns.refl (· = R) w).below hb0
  clear h
  show Calls _ _ _ _ fun e w' => ∃ v, e = .returned v ∧ Got w' w.heap.size 9 1 v ((spKs (min (rdN 1 (l.drop p)) 9) l (p + 1)).1.map strX) ∧ SdB w' R l (spKs (min (rdN 1 (l.drop p)) 9) l (p + 1)).2 ∧ Turns (· = R) w w'
  generalize rdN 1 (l.drop p) = N at HN hN ⊢
  obtain ⟨M, hM⟩ : ∃ M, M = min N 9 := ⟨_, rfl⟩
  rw [← hM]
  go_enter Tryz.func56, Tryz.ntmps56
  go_wp2_with fail
  refine (HN.out _ HS0.out).mono ?_
  rintro e w1 ⟨rfl, hd, ht⟩
  have HD : Hid (SdB w1 R l (p + 1)) := hd
  have HT : Hid (Turns (· = R) w w1) := HT0.trans ht
  have HG1 : Hid (Got w1 w.heap.size 9 1 (.slice (some ⟨w.heap.size, 0, none⟩) 0 0) (([] : List ByteArray).map strX)) := HG0.turns ht fun c h => by have h : c = R := h; omega
  clear hd ht hb0 HS0 HG0 HT0 HN
  go_wp2
  go_loopw [3, 5] (fun q i wr => ∃ (j : Nat) (ks : List ByteArray) (cu : Nat), j ≤ M ∧ i = .int .i64 (j : Int) ∧ ks.length = j ∧ cu ≤ 110000000 + 1000 * j ∧ Hid (ks ++ (spKs (M - j) l cu).1 = (spKs M l (p + 1)).1 ∧ (spKs (M - j) l cu).2 = (spKs M l (p + 1)).2) ∧ Hid (SdB wr R l cu) ∧ Hid (Turns (· = R) w wr) ∧ Hid (Got wr w.heap.size 9 1 q (ks.map strX))) (fun _ i _ => M - (intOf i).toNat)
  case atStart => exact ⟨0, [], p + 1, Nat.zero_le _, rfl, rfl, by omega, ⟨rfl, rfl⟩, HD, HT, HG1⟩
  case round =>
    clear HD HT HG1
    obtain ⟨j, ks, cu, hj, rfl, hkj, hcu, HE, HD, HT, HG⟩ := hrel
    obtain ⟨a1, n1, c1, rfl, hg⟩ := HG.out.lit2
    have HG1 : Hid (Got wr w.heap.size 9 1 (.slice a1 n1 c1) (ks.map strX)) := hg
    clear hg HG
    by_cases hlt : j < M
    · have hlti : (j : Int) < N := by omega
      have hl8 : (j : Int) ≤ 8 := by omega
      have HNc : Hid (∀ u : World, SdB u R l cu → Calls Tryz.prog 39 #[.pointer (some ⟨R, 0, none⟩), .int .i64 1] u fun e w' => e = .returned (.int .i64 (rdN 1 (l.drop cu) : Int)) ∧ SdB w' R l (cu + 1) ∧ Turns (· = R) u w') := fun u hu => HN0.out u cu hu (by omega)
      have HXc : Hid (∀ u : World, SdB u R l (cu + 1) → Calls Tryz.prog 40 #[.pointer (some ⟨R, 0, none⟩), .int .i64 (rdN 1 (l.drop cu) : Int)] u fun e w' => e = .returned (.string (spX l cu).1) ∧ SdB w' R l (spX l cu).2 ∧ Turns (· = R) u w') := fun u hu => HX0.out u cu hu (by omega)
      have HE' : Hid ((ks ++ [(spX l cu).1]) ++ (spKs (M - (j + 1)) l (spX l cu).2).1 = (spKs M l (p + 1)).1 ∧ (spKs (M - (j + 1)) l (spX l cu).2).2 = (spKs M l (p + 1)).2) := by
        refine ⟨?_, ?_⟩
        · rw [← HE.out.1, show M - j = (M - (j + 1)) + 1 by omega, List.append_assoc]; rfl
        · rw [← HE.out.2, show M - j = (M - (j + 1)) + 1 by omega]; rfl
      have hnx : (spX l cu).2 ≤ 110000000 + 1000 * (j + 1) := by have := spX_le l cu; omega
      clear HE
      generalize spX l cu = X at HXc HE' hnx
      generalize rdN 1 (l.drop cu) = M0 at HXc HNc
      go_wp2_with fail
      refine (HNc.out _ HD.out).mono ?_
      rintro e w2 ⟨rfl, hd, ht⟩
      have HD2 : Hid (SdB w2 R l (cu + 1)) := hd
      have HT2 : Hid (Turns (· = R) wr w2) := ht
      clear hd ht
      go_wp2_with fail
      refine (HXc.out _ HD2.out).mono ?_
      rintro e w3 ⟨rfl, hd, ht⟩
      have HD3 : Hid (SdB w3 R l X.2) := hd
      have HTr : Turns (· = R) wr w3 := HT2.out.trans ht
      have HT3 : Hid (Turns (· = R) w w3) := HT.out.trans HTr
      have HG3 : Hid (Got w3 w.heap.size 9 1 (.slice a1 n1 c1) (ks.map strX)) := HG1.out.turns HTr fun c h => by have h : c = R := h; omega
      have hs3 : w.heap.size ≤ w3.heap.size := HT3.out.size
      clear hd ht HTr HG1 HD2 HT2 HD HT HNc HXc
      go_wp2_with (at_builtin; refine app_one rfl (.tmp 18) (.tmp 23) rfl Tryz.underlying44 infoStrR rfl (by decide) (by decide) w.heap.size _ (ks.map strX) rfl (HG3.out.on (ch_alloc (Below.refl _ _) _)) w3.heap.size 1 #[.string X.1] rfl (Loc.new _ _ _) rfl (str_oneR X.1) (by simp; omega) (by simp; omega) ?_; intro v4 w4 hg4 hb4)
      have HG4 : Hid (Got w4 w.heap.size 9 1 v4 ((ks ++ [X.1]).map strX)) := by
        show Got _ _ _ _ _ _
        rw [List.map_append]; exact hg4
      have hb34 : Below w.heap.size w3 w4 := (Below.alloc (Below.refl _ _) hs3 _).trans hb4
      have HD4 : Hid (SdB w4 R l X.2) := HD3.out.low hRw hb34
      have HT4 : Hid (Turns (· = R) w w4) := HT3.out.low hb34
      clear hg4 hb4 hb34
      go_round
      case rel => exact ⟨j + 1, ks ++ [X.1], X.2, by omega, by go_num, by simp; omega, hnx, HE', HD4, HT4, HG4⟩
      case measure => simp [intOf]; omega
    · have HF : Hid (ks = (spKs M l (p + 1)).1 ∧ cu = (spKs M l (p + 1)).2) := by
        have := HE.out
        rw [show M - j = 0 by omega, spKs] at this
        show ks = _ ∧ _
        simpa using this
      by_cases h2 : j < N
      · have h2i : (j : Int) < N := by omega
        have h9 : 8 < (j : Int) := by omega
        go_wp2
        go_ret
        exact ⟨_, rfl, by rw [← HF.out.1]; exact HG1.out, by rw [← HF.out.2]; exact HD.out, HT.out⟩
      · have h2i : (N : Int) ≤ j := by omega
        go_wp2
        go_ret
        exact ⟨_, rfl, by rw [← HF.out.1]; exact HG1.out, by rw [← HF.out.2]; exact HD.out, HT.out⟩
end Go.Proofs.YtiijahoheajppaaGreat
