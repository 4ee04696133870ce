/- The given reader of bytes. The given reader of bytes: a value. -/
import Derived.Test.YtikccmgpmbnkfaaGreatCt
namespace Go.Proofs.YtikccmgpmbnkfaaGreat
open Go.ChangeShapes Go.WideShapes Go.ChangeAt Go.RowKit

/-- A text of n bytes from a place on, and the place behind it. -/
def spT (n : Nat) (l : List UInt8) (p : Nat) : ByteArray × Nat := if p + n ≤ l.length then (⟨((l.drop p).take n).toArray⟩, p + n) else (⟨#[]⟩, l.length + 1)
/-- A value from a place on, and the place behind it. -/
def spV (l : List UInt8) (p : Nat) : Vc × Nat :=
  if rdN 1 (l.drop p) = 1 then (⟨1, (rdN 1 (l.drop (p + 1)) : Int), ⟨#[]⟩⟩, p + 1 + 1)
  else if rdN 1 (l.drop p) = 2 then (⟨2, if rdN 1 (l.drop (p + 1)) = 1 then -(rdN 6 (l.drop (p + 1 + 1)) : Int) else (rdN 6 (l.drop (p + 1 + 1)) : Int), ⟨#[]⟩⟩, p + 1 + 1 + 6)
  else if rdN 1 (l.drop p) = 3 then (⟨3, 0, (spT (rdN 1 (l.drop (p + 1))) l (p + 1 + 1)).1⟩, (spT (rdN 1 (l.drop (p + 1))) l (p + 1 + 1)).2)
  else (⟨(rdN 1 (l.drop p) : Int), 0, ⟨#[]⟩⟩, p + 1)
def spVs : Nat → List UInt8 → Nat → List Vc × Nat
  | 0, _, p => ([], p)
  | n + 1, l, p => ((spV l p).1 :: (spVs n l (spV l p).2).1, (spVs n l (spV l p).2).2)
/-- The given reader at R stands at place p of l. -/
def SdB (w : World) (R : Nat) (l : List UInt8) (p : Nat) : Prop := ∃ b off cap, Own w R 78 #[.slice (some ⟨b, off, none⟩) l.length cap, .int .i64 (p : Int)] ∧ b < R ∧ l.length ≤ cap ∧ cap ≤ maxLen ∧ RowAt w (some ⟨b, off, none⟩) 1 (l.map byX)
theorem SdB.on {w w' : World} {R p : Nat} {l : List UInt8} (h : SdB w R l p) (k : Below w.heap.size w w') : SdB w' R l p := by
  obtain ⟨b, off, cap, h1, h2, h3, h4, h5⟩ := h
  exact ⟨b, off, cap, h1.on k, h2, h3, h4, h5.on k⟩
theorem SdB.move {w : World} {R p : Nat} {l : List UInt8} (h : SdB w R l p) (q : Nat) : SdB (w.setCell ⟨R, 1, none⟩ (.int .i64 (q : Int))) R l q := by
  obtain ⟨b, off, cap, h1, h2, h3, h4, h5⟩ := h
  exact ⟨b, off, cap, h1.set 1 _, h2, h3, h4, h5.set (fun q hq => by cases hq; exact Nat.ne_of_lt h2) _⟩
theorem SdB.moveI {w : World} {R p : Nat} {l : List UInt8} (h : SdB w R l p) (q : Nat) (i : Int) (hi : i = (q : Int)) : SdB (w.setCell ⟨R, 1, none⟩ (.int .i64 i)) R l q := hi ▸ h.move q
theorem SdB.draws {w : World} {R p : Nat} {l : List UInt8} (h : SdB w R l p) (k : Nat) : SdB (w.drewN k) R l p := h.on (below_draws _ (Below.refl _ _))
theorem Turns.draws {S : Nat → Prop} {a b : World} (h : Turns S a b) (k : Nat) : Turns S a (b.drewN k) := h.below (below_draws _ (Below.refl _ _))
theorem SdB.other {w : World} {R p : Nat} {l : List UInt8} (h : SdB w R l p) {a : Addr} (hp : R < a.block) (u : Value) : SdB (w.setCell a u) R l p := by
  obtain ⟨b, off, cap, ho, hb, h3, h4, hr⟩ := h
  exact ⟨b, off, cap, ho.other (by omega) u, hb, h3, h4, hr.set (fun q hq => by cases hq; show b ≠ a.block; omega) u⟩
set_option maxRecDepth 100000 in
set_option maxHeartbeats 1000000 in
/-- spec.l06Take -/
theorem l06Take_any (R s p : Nat) (l : List UInt8) (w : World) (h : SdB w R l p) (h1 : 1 ≤ s) (h6 : s ≤ 6) (hp : p ≤ 1000000000) :
    Calls Tryz.prog 39 #[.pointer (some ⟨R, 0, none⟩), .int .i64 (s : Int)] w fun e w' => e = .returned (.int .i64 (rdN s (l.drop p) : Int)) ∧ SdB w' R l (p + s) ∧ Turns (· = R) w w' := by
  have HS : Hid (SdB w R l p) := h
  obtain ⟨b, off, cap, ho, hbR, hlc, hcm, hr⟩ := h
  have HB : Hid (BytesV w (.slice (some ⟨b, off, none⟩) l.length cap) l) := ⟨_, _, rfl, hlc, hcm, hr⟩
  obtain ⟨g, hg⟩ : ∃ g : Bool, (g = true ∧ okGet l (p : Int) (s : Int) ∧ rdN s (l.drop p) = getL l ((p : Int)).toNat ((s : Int)).toNat) ∨ (g = false ∧ ¬ okGet l (p : Int) (s : Int) ∧ rdN s (l.drop p) = 0) := by
    by_cases hs : p + s ≤ l.length
    · refine ⟨true, Or.inl ⟨rfl, ⟨by omega, by omega, by omega, by omega⟩, ?_⟩⟩
      unfold rdN getL
      rw [if_pos (by simp; omega)]
      simp
    · refine ⟨false, Or.inr ⟨rfl, fun hh => ?_, ?_⟩⟩
      · have := hh.2.2.2
        omega
      · unfold rdN
        rw [if_neg (by simp; omega)]
  have HGN : Hid (∀ (u : World) (v : Value), BytesV u v l → Calls Tryz.prog 77 #[v, .int .i64 (p : Int), .int .i64 (s : Int)] u fun e w' => e = .returned (.tuple #[.int .i64 (rdN s (l.drop p) : Int), .bool g]) ∧ Below u.heap.size u w') := fun u v hu => getNum_spec v l p s u hu ⟨by omega, by omega⟩ ⟨by omega, by omega⟩ g (rdN s (l.drop p)) hg
  have g0 := ho.loc.two
  obtain ⟨c0, c1⟩ := g0
  clear hg hr
  generalize rdN s (l.drop p) = N at HGN ⊢
  go_enter Tryz.func39, Tryz.ntmps39
  go_wp2_with fail
  go_region_with (go_at_call 77; refine (HGN.out _ _ (HB.out.on (by repeat (first | with_reducible exact Below.refl _ _ | with_reducible assumption | with_reducible refine ch_alloc ?_ _ | with_reducible refine Below.drew ?_ | with_reducible refine below_draws _ ?_ | (with_reducible refine Below.setCell ?_ ?_ _; rotate_left; focus (first | with_reducible exact Nat.le_refl _ | (simp; done) | (simp; omega) | (simp at *; omega))) | with_reducible refine ch_trans ?_ (by with_reducible assumption))))).mono ?_; rintro e w1 ⟨rfl, b1⟩; have HO1 := ho.on (w' := w1) (by repeat (first | with_reducible exact Below.refl _ _ | with_reducible assumption | with_reducible refine ch_alloc ?_ _ | with_reducible refine Below.drew ?_ | with_reducible refine below_draws _ ?_ | (with_reducible refine Below.setCell ?_ ?_ _; rotate_left; focus (first | with_reducible exact Nat.le_refl _ | (simp; done) | (simp; omega) | (simp at *; omega))) | with_reducible refine ch_trans ?_ (by with_reducible assumption))); have HS1 : Hid (SdB w1 R l p) := HS.out.on (by repeat (first | with_reducible exact Below.refl _ _ | with_reducible assumption | with_reducible refine ch_alloc ?_ _ | with_reducible refine Below.drew ?_ | with_reducible refine below_draws _ ?_ | (with_reducible refine Below.setCell ?_ ?_ _; rotate_left; focus (first | with_reducible exact Nat.le_refl _ | (simp; done) | (simp; omega) | (simp at *; omega))) | with_reducible refine ch_trans ?_ (by with_reducible assumption))); have HT1 : Hid (Turns (· = R) w w1) := (Turns.refl (· = R) w).below (show Below w.heap.size w w1 from (by repeat (first | with_reducible exact Below.refl _ _ | with_reducible assumption | with_reducible refine ch_alloc ?_ _ | with_reducible refine Below.drew ?_ | with_reducible refine below_draws _ ?_ | (with_reducible refine Below.setCell ?_ ?_ _; rotate_left; focus (first | with_reducible exact Nat.le_refl _ | (simp; done) | (simp; omega) | (simp at *; omega))) | with_reducible refine ch_trans ?_ (by with_reducible assumption)))); obtain ⟨d0, d1⟩ := HO1.loc.two; have i1 := HO1.frozen 1)
  all_goals
    have HS2 : Hid (SdB (w1.setCell ⟨R, 1, none⟩ (.int .i64 ((p + s : Nat) : Int))) R l (p + s)) := HS1.out.move (p + s)
    have HT2 : Hid (Turns (· = R) w (w1.setCell ⟨R, 1, none⟩ (.int .i64 ((p + s : Nat) : Int)))) := HT1.out.set rfl _
    rw [show ((p + s : Nat) : Int) = (p : Int) + (s : Int) by omega] at HS2 HT2
    go_wp2
    go_ret
    exact ⟨rfl, HS2.out, HT2.out⟩
set_option maxRecDepth 100000 in
set_option maxHeartbeats 1000000 in
/-- spec.l06Text -/
theorem l06Text_any (R n p : Nat) (l : List UInt8) (w : World) (h : SdB w R l p) (hn : n ≤ 255) (hp : p ≤ 1000000000) (hl : l.length ≤ 1048576) :
    Calls Tryz.prog 40 #[.pointer (some ⟨R, 0, none⟩), .int .i64 (n : Int)] w fun e w' => e = .returned (.string (spT n l p).1) ∧ SdB w' R l (spT n l p).2 ∧ Turns (· = R) w w' := by
  have HS : Hid (SdB w R l p) := h
  obtain ⟨b, off, cap, ho, hbR, hlc, hcm, hr⟩ := h
  have hcm' := hcm
  unfold maxLen at hcm'
  obtain ⟨c0, c1⟩ := ho.loc.two
  have i1 := ho.frozen 1
  by_cases hin : p + n ≤ l.length
  · have e : spT n l p = (⟨((l.drop p).take n).toArray⟩, p + n) := by unfold spT; rw [if_pos hin]
    rw [e]
    have h1 : decide ((l.length : Int) - (p : Int) < (n : Int)) = false := decide_eq_false (by omega)
    have h2 : decide ((l.length : Int) < (p : Int)) = false := decide_eq_false (by omega)
    have HS2 : Hid (SdB (w.setCell ⟨R, 1, none⟩ (.int .i64 ((p : Int) + (n : Int)))) R l (p + n)) := by
      have := HS.out.move (p + n)
      rwa [show ((p + n : Nat) : Int) = (p : Int) + (n : Int) by omega] at this
    have HT2 : Hid (Turns (· = R) w (w.setCell ⟨R, 1, none⟩ (.int .i64 ((p : Int) + (n : Int))))) := (Turns.refl (· = R) w).set rfl _
    have HR2 : Hid (RowAt (w.setCell ⟨R, 1, none⟩ (.int .i64 ((p : Int) + (n : Int)))) (some ⟨b, off + p, none⟩) 1 (((l.drop p).take n).map byX)) := row_take (row_drop (hr.set (fun q hq => by cases hq; exact Nat.ne_of_lt hbR) _))
    have hlt : ((l.drop p).take n).length = n := by simp; omega
    clear e
    clear HS2 HT2 HR2
    by_cases hcp : cap = p
    · obtain rfl : n = 0 := by omega
      have e0 : (l.drop p).take 0 = [] := rfl
      rw [e0]
      subst hcp
      have h3 : decide (l.length < cap) = false := decide_eq_false (by omega)
      have h4 : decide ((l.length : Int) < (cap : Int)) = false := decide_eq_false (by omega)
      have h5 : decide ((l.length : Int) - (cap : Int) < 0) = false := decide_eq_false (by omega)
      clear h1 h2 hlt
      go_enter Tryz.func40, Tryz.ntmps40
      go_wp2
      go_quiet (fail)
      go_wp2
      have hcv := fun k : Nat => conv_back (((w.drewN nq).setCell ⟨R, 1, none⟩ (.int .i64 ((cap : Int)))).drewN k) b off 0 [] (RowAt.nil _ _ _)
      rw [List.length_nil] at hcv
      go_quiet (fail)
      go_wp2
      go_ret
      exact ⟨rfl, ((HS.out.draws _).moveI _ _ (by omega)).draws _, (((Turns.refl (· = R) w).draws _).set rfl _).draws _⟩
    · have hcp2 : p < cap := by omega
      go_enter Tryz.func40, Tryz.ntmps40
      go_wp2
      go_quiet (fail)
      go_wp2
      have hcv := fun k : Nat => conv_back (((w.drewN nq).setCell ⟨R, 1, none⟩ (.int .i64 ((p : Int) + (n : Int)))).drewN k) b (off + p) (cap - p) ((l.drop p).take n) ((row_take (row_drop ((hr.on (below_draws _ (Below.refl _ _))).set (fun q hq => by cases hq; exact Nat.ne_of_lt hbR) _))).on (below_draws _ (Below.refl _ _)))
      rw [hlt] at hcv
      go_quiet (fail)
      go_wp2
      go_ret
      exact ⟨rfl, ((HS.out.draws _).moveI _ _ (by omega)).draws _, (((Turns.refl (· = R) w).draws _).set rfl _).draws _⟩
  · have e : spT n l p = (⟨#[]⟩, l.length + 1) := by unfold spT; rw [if_neg hin]
    rw [e]
    have h1 : decide ((l.length : Int) - (p : Int) < (n : Int)) = true := decide_eq_true (by omega)
    clear e hin
    go_enter Tryz.func40, Tryz.ntmps40
    go_wp2
    go_quiet (fail)
    go_wp2
    go_ret
    exact ⟨rfl, (HS.out.draws _).moveI _ _ (by omega), ((Turns.refl (· = R) w).draws _).set rfl _⟩
end Go.Proofs.YtikccmgpmbnkfaaGreat

namespace Go.Proofs.YtikccmgpmbnkfaaGreat
open Go.ChangeShapes Go.WideShapes Go.ChangeAt Go.RowKit

theorem sd_stores {w w1 w2 : World} {R q : Nat} {E : List UInt8} (hd : SdB w2 R E q) (ht : Turns (· = R) w w2) (hR : R < w.heap.size) (hs : w.heap.size < w1.heap.size) (i : Nat) (v v0 v1 v2 : Value) :
    SdB ((((w2.setCell ⟨w1.heap.size, i, none⟩ v).setCell ⟨w.heap.size, 0, none⟩ v0).setCell ⟨w.heap.size, 1, none⟩ v1).setCell ⟨w.heap.size, 2, none⟩ v2) R E q ∧ Turns (· = R) w ((((w2.setCell ⟨w1.heap.size, i, none⟩ v).setCell ⟨w.heap.size, 0, none⟩ v0).setCell ⟨w.heap.size, 1, none⟩ v1).setCell ⟨w.heap.size, 2, none⟩ v2) :=
  ⟨(((hd.other (a := ⟨w1.heap.size, i, none⟩) (Nat.lt_trans hR hs) v).other (a := ⟨w.heap.size, 0, none⟩) hR v0).other (a := ⟨w.heap.size, 1, none⟩) hR v1).other (a := ⟨w.heap.size, 2, none⟩) hR v2,
   (((ht.fresh (p := ⟨w1.heap.size, i, none⟩) (Nat.le_of_lt hs) v).fresh (p := ⟨w.heap.size, 0, none⟩) (Nat.le_refl _) v0).fresh (p := ⟨w.heap.size, 1, none⟩) (Nat.le_refl _) v1).fresh (p := ⟨w.heap.size, 2, none⟩) (Nat.le_refl _) v2⟩
theorem sd_stores3 {w w2 : World} {R q : Nat} {E : List UInt8} (hd : SdB w2 R E q) (ht : Turns (· = R) w w2) (hR : R < w.heap.size) (v0 v1 v2 : Value) :
    SdB (((w2.setCell ⟨w.heap.size, 0, none⟩ v0).setCell ⟨w.heap.size, 1, none⟩ v1).setCell ⟨w.heap.size, 2, none⟩ v2) R E q ∧ Turns (· = R) w (((w2.setCell ⟨w.heap.size, 0, none⟩ v0).setCell ⟨w.heap.size, 1, none⟩ v1).setCell ⟨w.heap.size, 2, none⟩ v2) :=
  ⟨((hd.other (a := ⟨w.heap.size, 0, none⟩) hR v0).other (a := ⟨w.heap.size, 1, none⟩) hR v1).other (a := ⟨w.heap.size, 2, none⟩) hR v2,
   ((ht.fresh (p := ⟨w.heap.size, 0, none⟩) (Nat.le_refl _) v0).fresh (p := ⟨w.heap.size, 1, none⟩) (Nat.le_refl _) v1).fresh (p := ⟨w.heap.size, 2, none⟩) (Nat.le_refl _) v2⟩
set_option maxRecDepth 100000 in
set_option maxHeartbeats 1000000 in
/-- spec.l06Val -/
theorem l06Val_any (R p : Nat) (l : List UInt8) (w : World) (h : SdB w R l p) (hp : p ≤ 900000000) (hl : l.length ≤ 1048576) :
    Calls Tryz.prog 78 #[.pointer (some ⟨R, 0, none⟩)] w fun e w' => e = .returned (.agg (spV l p).1.cells) ∧ SdB w' R l (spV l p).2 ∧ Turns (· = R) w w' := by
  have HN : Hid (∀ u : World, SdB u R l p → Calls Tryz.prog 39 #[.pointer (some ⟨R, 0, none⟩), .int .i64 1] u fun e w' => e = .returned (.int .i64 (rdN 1 (l.drop p) : Int)) ∧ SdB w' R l (p + 1) ∧ Turns (· = R) u w') := fun u hu => l06Take_any R 1 p l u hu (by omega) (by omega) (by omega)
  have HR : Hid (SdB w R l p) := h
  have hRw : R < w.heap.size := by obtain ⟨_, _, _, ho, _⟩ := h; exact ho.lt
  have HN2 : Hid (∀ u : World, SdB u R l (p + 1) → Calls Tryz.prog 39 #[.pointer (some ⟨R, 0, none⟩), .int .i64 1] u fun e w' => e = .returned (.int .i64 (rdN 1 (l.drop (p + 1)) : Int)) ∧ SdB w' R l (p + 1 + 1) ∧ Turns (· = R) u w') := fun u hu => l06Take_any R 1 (p + 1) l u hu (by omega) (by omega) (by omega)
  have HS : Hid (∀ u : World, SdB u R l (p + 1 + 1) → Calls Tryz.prog 39 #[.pointer (some ⟨R, 0, none⟩), .int .i64 6] u fun e w' => e = .returned (.int .i64 (rdN 6 (l.drop (p + 1 + 1)) : Int)) ∧ SdB w' R l (p + 1 + 1 + 6) ∧ Turns (· = R) u w') := fun u hu => l06Take_any R 6 (p + 1 + 1) l u hu (by omega) (by omega) (by omega)
  have HX : Hid (∀ u : World, SdB u R l (p + 1 + 1) → Calls Tryz.prog 40 #[.pointer (some ⟨R, 0, none⟩), .int .i64 (rdN 1 (l.drop (p + 1)) : Int)] u fun e w' => e = .returned (.string (spT (rdN 1 (l.drop (p + 1))) l (p + 1 + 1)).1) ∧ SdB w' R l (spT (rdN 1 (l.drop (p + 1))) l (p + 1 + 1)).2 ∧ Turns (· = R) u w') := fun u hu => l06Text_any R _ (p + 1 + 1) l u hu (by have := rdN_byte (l.drop (p + 1)); omega) (by omega) hl
  have hlt := rdN_lt 6 (l.drop (p + 1 + 1)) (by omega)
  clear h
  by_cases h1 : rdN 1 (l.drop p) = 1
  · have e : spV l p = (⟨1, (rdN 1 (l.drop (p + 1)) : Int), ⟨#[]⟩⟩, p + 1 + 1) := by unfold spV; rw [if_pos h1]
    rw [e]
    rw [h1] at HN
    simp only
    clear HS HX h1 e
    generalize rdN 1 (l.drop (p + 1)) = M at HN2 ⊢
    go_enter Tryz.func78, Tryz.ntmps78
    go_wp2_with fail
    refine (HN.out _ (HR.out.on (by repeat (first | with_reducible exact Below.refl _ _ | with_reducible assumption | with_reducible refine ch_alloc ?_ _ | with_reducible refine Below.drew ?_ | with_reducible refine below_draws _ ?_ | (with_reducible refine Below.setCell ?_ ?_ _; rotate_left; focus (first | with_reducible exact Nat.le_refl _ | (simp; done) | (simp; omega) | (simp at *; omega))) | with_reducible refine ch_trans ?_ (by with_reducible assumption))))).mono ?_
    rintro e w1 ⟨rfl, hd, ht⟩
    have HD : Hid (SdB w1 R l (p + 1)) := hd
    have HO1 : Own w1 w.heap.size 128 #[.int .i64 0, .int .i64 0, .string { data := #[] }] := (Own.new _ _ _).turned ht (by show ¬ (w.heap.size = R); omega)
    have hs1 : w.heap.size < w1.heap.size := HO1.lt
    have HT : Hid (Turns (· = R) w w1) := ((Turns.refl (· = R) w).below (ch_alloc (Below.refl _ _) _)).trans ht
    clear hd ht
    go_wp2_with fail
    refine (HN2.out _ (HD.out.on (by repeat (first | with_reducible exact Below.refl _ _ | with_reducible assumption | with_reducible refine ch_alloc ?_ _ | with_reducible refine Below.drew ?_ | with_reducible refine below_draws _ ?_ | (with_reducible refine Below.setCell ?_ ?_ _; rotate_left; focus (first | with_reducible exact Nat.le_refl _ | (simp; done) | (simp; omega) | (simp at *; omega))) | with_reducible refine ch_trans ?_ (by with_reducible assumption))))).mono ?_
    rintro e w2 ⟨rfl, hd, ht⟩
    have HO2 : Own w2 w.heap.size 128 #[.int .i64 0, .int .i64 0, .string { data := #[] }] := (HO1.on (ch_alloc (Below.refl _ _) _)).turned ht (by show ¬ (w.heap.size = R); omega)
    have HV2 : Own w2 w1.heap.size 128 #[.int .i64 1, .int .i64 0, .string { data := #[] }] := (Own.new _ _ _).turned ht (by show ¬ (w1.heap.size = R); omega)
    have hs2 : w1.heap.size < w2.heap.size := HV2.lt
    have HD2 : Hid (SdB w2 R l (p + 1 + 1)) := hd
    have HT2 : Hid (Turns (· = R) w w2) := (HT.out.below (ch_alloc (Below.refl _ _) _)).trans ht
    clear hd ht
    obtain ⟨c0, c1, c2⟩ := HV2.loc.three
    obtain ⟨d0, d1, d2⟩ := HO2.loc.three
    have f0 := HV2.frozen 1
    have k0 := HO2.frozen 0
    have k1 := HO2.frozen 1
    have k2 := HO2.frozen 2
    go_wp2
    have HO3 : Own _ w.heap.size 128 #[.int .i64 1, .int .i64 (M : Int), .string { data := #[] }] := own3 (HO2.other (p := ⟨w1.heap.size, 1, none⟩) (by simp; omega) (.int .i64 (M : Int))) (.int .i64 1) (.int .i64 (M : Int)) (.string { data := #[] })
    have HB3 : Hid (Below w2.heap.size w2 w2) := Below.refl _ _
    have HE3 : Hid (∀ W : World, W = (((w2.setCell ⟨w1.heap.size, 1, none⟩ (.int .i64 (M : Int))).setCell ⟨w.heap.size, 0, none⟩ (.int .i64 1)).setCell ⟨w.heap.size, 1, none⟩ (.int .i64 (M : Int))).setCell ⟨w.heap.size, 2, none⟩ (.string { data := #[] }) → SdB W R l (p + 1 + 1) ∧ Turns (· = R) w W) := fun W hW => by
      subst hW
      exact sd_stores HD2.out HT2.out hRw hs1 _ _ _ _ _
    generalize hW : (((w2.setCell ⟨w1.heap.size, 1, none⟩ (.int .i64 (M : Int))).setCell ⟨w.heap.size, 0, none⟩ (.int .i64 1)).setCell ⟨w.heap.size, 1, none⟩ (.int .i64 (M : Int))).setCell ⟨w.heap.size, 2, none⟩ (.string { data := #[] }) = W at HO3 ⊢
    obtain ⟨hA, hB⟩ := HE3.out W hW.symm
    obtain ⟨e0, e1, e2⟩ := HO3.loc.three
    exact bodyPost_ret (v := .agg #[.int .i64 1, .int .i64 (M : Int), .string { data := #[] }]) (by simp [results, Tryz.results78, go_sem, e0, e1, e2]) rfl ⟨rfl, hA, hB⟩
  by_cases h2 : rdN 1 (l.drop p) = 2
  · by_cases hsg : rdN 1 (l.drop (p + 1)) = 1
    · have e : spV l p = (⟨2, -(rdN 6 (l.drop (p + 1 + 1)) : Int), ⟨#[]⟩⟩, p + 1 + 1 + 6) := by unfold spV; rw [if_neg h1, if_pos h2, if_pos hsg]
      rw [e]
      rw [h2] at HN
      simp only
      rw [hsg] at HN2
      clear HX h1 h2 e hsg
      generalize rdN 6 (l.drop (p + 1 + 1)) = M at HS hlt ⊢
      go_enter Tryz.func78, Tryz.ntmps78
      go_wp2_with fail
      refine (HN.out _ (HR.out.on (by repeat (first | with_reducible exact Below.refl _ _ | with_reducible assumption | with_reducible refine ch_alloc ?_ _ | with_reducible refine Below.drew ?_ | with_reducible refine below_draws _ ?_ | (with_reducible refine Below.setCell ?_ ?_ _; rotate_left; focus (first | with_reducible exact Nat.le_refl _ | (simp; done) | (simp; omega) | (simp at *; omega))) | with_reducible refine ch_trans ?_ (by with_reducible assumption))))).mono ?_
      rintro e w1 ⟨rfl, hd, ht⟩
      have HD : Hid (SdB w1 R l (p + 1)) := hd
      have HO1 : Own w1 w.heap.size 128 #[.int .i64 0, .int .i64 0, .string { data := #[] }] := (Own.new _ _ _).turned ht (by show ¬ (w.heap.size = R); omega)
      have hs1 : w.heap.size < w1.heap.size := HO1.lt
      have HT : Hid (Turns (· = R) w w1) := ((Turns.refl (· = R) w).below (ch_alloc (Below.refl _ _) _)).trans ht
      clear hd ht
      go_wp2_with fail
      refine (HN2.out _ (HD.out.on (by repeat (first | with_reducible exact Below.refl _ _ | with_reducible assumption | with_reducible refine ch_alloc ?_ _ | with_reducible refine Below.drew ?_ | with_reducible refine below_draws _ ?_ | (with_reducible refine Below.setCell ?_ ?_ _; rotate_left; focus (first | with_reducible exact Nat.le_refl _ | (simp; done) | (simp; omega) | (simp at *; omega))) | with_reducible refine ch_trans ?_ (by with_reducible assumption))))).mono ?_
      rintro e w2 ⟨rfl, hd, ht⟩
      have HO2 : Own w2 w.heap.size 128 #[.int .i64 0, .int .i64 0, .string { data := #[] }] := (HO1.on (ch_alloc (Below.refl _ _) _)).turned ht (by show ¬ (w.heap.size = R); omega)
      have HV2 : Own w2 w1.heap.size 128 #[.int .i64 2, .int .i64 0, .string { data := #[] }] := (Own.new _ _ _).turned ht (by show ¬ (w1.heap.size = R); omega)
      have hs2 : w1.heap.size < w2.heap.size := HV2.lt
      have HD2 : Hid (SdB w2 R l (p + 1 + 1)) := hd
      have HT2 : Hid (Turns (· = R) w w2) := (HT.out.below (ch_alloc (Below.refl _ _) _)).trans ht
      clear hd ht
      go_wp2_with fail
      refine (HS.out _ HD2.out).mono ?_
      rintro e w3 ⟨rfl, hd, ht⟩
      have HO3' : Own w3 w.heap.size 128 #[.int .i64 0, .int .i64 0, .string { data := #[] }] := HO2.turned ht (by show ¬ (w.heap.size = R); omega)
      have HV3 : Own w3 w1.heap.size 128 #[.int .i64 2, .int .i64 0, .string { data := #[] }] := HV2.turned ht (by show ¬ (w1.heap.size = R); omega)
      have HD3 : Hid (SdB w3 R l (p + 1 + 1 + 6)) := hd
      have HT3 : Hid (Turns (· = R) w w3) := HT2.out.trans ht
      clear hd ht
      obtain ⟨c0, c1, c2⟩ := HV3.loc.three
      obtain ⟨d0, d1, d2⟩ := HO3'.loc.three
      have f0 := HV3.frozen 1
      have k0 := HO3'.frozen 0
      have k1 := HO3'.frozen 1
      have k2 := HO3'.frozen 2
      go_wp2
      have HO3 : Own _ w.heap.size 128 #[.int .i64 2, .int .i64 (-(M : Int)), .string { data := #[] }] := own3 ((HO3'.other (p := ⟨w1.heap.size, 1, none⟩) (by simp; omega) (.int .i64 (M : Int))).other (p := ⟨w1.heap.size, 1, none⟩) (by simp; omega) (.int .i64 (-(M : Int)))) (.int .i64 2) (.int .i64 (-(M : Int))) (.string { data := #[] })
      have HB3 : Hid (Below w3.heap.size w3 w3) := Below.refl _ _
      have HE3 : Hid (∀ W : World, W = ((((w3.setCell ⟨w1.heap.size, 1, none⟩ (.int .i64 (M : Int))).setCell ⟨w1.heap.size, 1, none⟩ (.int .i64 (-(M : Int)))).setCell ⟨w.heap.size, 0, none⟩ (.int .i64 2)).setCell ⟨w.heap.size, 1, none⟩ (.int .i64 (-(M : Int)))).setCell ⟨w.heap.size, 2, none⟩ (.string { data := #[] }) → SdB W R l (p + 1 + 1 + 6) ∧ Turns (· = R) w W) := fun W hW => by
        subst hW
        exact sd_stores (HD3.out.other (a := ⟨w1.heap.size, 1, none⟩) (Nat.lt_trans hRw hs1) (.int .i64 (M : Int))) (HT3.out.fresh (p := ⟨w1.heap.size, 1, none⟩) (Nat.le_of_lt hs1) (.int .i64 (M : Int))) hRw hs1 _ _ _ _ _
      generalize hW : ((((w3.setCell ⟨w1.heap.size, 1, none⟩ (.int .i64 (M : Int))).setCell ⟨w1.heap.size, 1, none⟩ (.int .i64 (-(M : Int)))).setCell ⟨w.heap.size, 0, none⟩ (.int .i64 2)).setCell ⟨w.heap.size, 1, none⟩ (.int .i64 (-(M : Int)))).setCell ⟨w.heap.size, 2, none⟩ (.string { data := #[] }) = W at HO3 ⊢
      obtain ⟨hA, hB⟩ := HE3.out W hW.symm
      obtain ⟨e0, e1, e2⟩ := HO3.loc.three
      exact bodyPost_ret (v := .agg #[.int .i64 2, .int .i64 (-(M : Int)), .string { data := #[] }]) (by simp [results, Tryz.results78, go_sem, e0, e1, e2]) rfl ⟨rfl, hA, hB⟩
    · have e : spV l p = (⟨2, (rdN 6 (l.drop (p + 1 + 1)) : Int), ⟨#[]⟩⟩, p + 1 + 1 + 6) := by unfold spV; rw [if_neg h1, if_pos h2, if_neg hsg]
      rw [e]
      rw [h2] at HN
      have hsg' : (((rdN 1 (l.drop (p + 1)) : Nat) : Int) == 1) = false := by simp; omega
      simp only
      clear HX h1 h2 e hsg
      generalize rdN 6 (l.drop (p + 1 + 1)) = M at HS hlt ⊢
      generalize rdN 1 (l.drop (p + 1)) = M1 at HN2 hsg'
      go_enter Tryz.func78, Tryz.ntmps78
      go_wp2_with fail
      refine (HN.out _ (HR.out.on (by repeat (first | with_reducible exact Below.refl _ _ | with_reducible assumption | with_reducible refine ch_alloc ?_ _ | with_reducible refine Below.drew ?_ | with_reducible refine below_draws _ ?_ | (with_reducible refine Below.setCell ?_ ?_ _; rotate_left; focus (first | with_reducible exact Nat.le_refl _ | (simp; done) | (simp; omega) | (simp at *; omega))) | with_reducible refine ch_trans ?_ (by with_reducible assumption))))).mono ?_
      rintro e w1 ⟨rfl, hd, ht⟩
      have HD : Hid (SdB w1 R l (p + 1)) := hd
      have HO1 : Own w1 w.heap.size 128 #[.int .i64 0, .int .i64 0, .string { data := #[] }] := (Own.new _ _ _).turned ht (by show ¬ (w.heap.size = R); omega)
      have hs1 : w.heap.size < w1.heap.size := HO1.lt
      have HT : Hid (Turns (· = R) w w1) := ((Turns.refl (· = R) w).below (ch_alloc (Below.refl _ _) _)).trans ht
      clear hd ht
      go_wp2_with fail
      refine (HN2.out _ (HD.out.on (by repeat (first | with_reducible exact Below.refl _ _ | with_reducible assumption | with_reducible refine ch_alloc ?_ _ | with_reducible refine Below.drew ?_ | with_reducible refine below_draws _ ?_ | (with_reducible refine Below.setCell ?_ ?_ _; rotate_left; focus (first | with_reducible exact Nat.le_refl _ | (simp; done) | (simp; omega) | (simp at *; omega))) | with_reducible refine ch_trans ?_ (by with_reducible assumption))))).mono ?_
      rintro e w2 ⟨rfl, hd, ht⟩
      have HO2 : Own w2 w.heap.size 128 #[.int .i64 0, .int .i64 0, .string { data := #[] }] := (HO1.on (ch_alloc (Below.refl _ _) _)).turned ht (by show ¬ (w.heap.size = R); omega)
      have HV2 : Own w2 w1.heap.size 128 #[.int .i64 2, .int .i64 0, .string { data := #[] }] := (Own.new _ _ _).turned ht (by show ¬ (w1.heap.size = R); omega)
      have hs2 : w1.heap.size < w2.heap.size := HV2.lt
      have HD2 : Hid (SdB w2 R l (p + 1 + 1)) := hd
      have HT2 : Hid (Turns (· = R) w w2) := (HT.out.below (ch_alloc (Below.refl _ _) _)).trans ht
      clear hd ht
      go_wp2_with fail
      refine (HS.out _ HD2.out).mono ?_
      rintro e w3 ⟨rfl, hd, ht⟩
      have HO3' : Own w3 w.heap.size 128 #[.int .i64 0, .int .i64 0, .string { data := #[] }] := HO2.turned ht (by show ¬ (w.heap.size = R); omega)
      have HV3 : Own w3 w1.heap.size 128 #[.int .i64 2, .int .i64 0, .string { data := #[] }] := HV2.turned ht (by show ¬ (w1.heap.size = R); omega)
      have HD3 : Hid (SdB w3 R l (p + 1 + 1 + 6)) := hd
      have HT3 : Hid (Turns (· = R) w w3) := HT2.out.trans ht
      clear hd ht
      obtain ⟨c0, c1, c2⟩ := HV3.loc.three
      obtain ⟨d0, d1, d2⟩ := HO3'.loc.three
      have f0 := HV3.frozen 1
      have k0 := HO3'.frozen 0
      have k1 := HO3'.frozen 1
      have k2 := HO3'.frozen 2
      go_wp2
      have HO3 : Own _ w.heap.size 128 #[.int .i64 2, .int .i64 (M : Int), .string { data := #[] }] := own3 (HO3'.other (p := ⟨w1.heap.size, 1, none⟩) (by simp; omega) (.int .i64 (M : Int))) (.int .i64 2) (.int .i64 (M : Int)) (.string { data := #[] })
      have HB3 : Hid (Below w3.heap.size w3 w3) := Below.refl _ _
      have HE3 : Hid (∀ W : World, W = (((w3.setCell ⟨w1.heap.size, 1, none⟩ (.int .i64 (M : Int))).setCell ⟨w.heap.size, 0, none⟩ (.int .i64 2)).setCell ⟨w.heap.size, 1, none⟩ (.int .i64 (M : Int))).setCell ⟨w.heap.size, 2, none⟩ (.string { data := #[] }) → SdB W R l (p + 1 + 1 + 6) ∧ Turns (· = R) w W) := fun W hW => by
        subst hW
        exact sd_stores HD3.out HT3.out hRw hs1 _ _ _ _ _
      generalize hW : (((w3.setCell ⟨w1.heap.size, 1, none⟩ (.int .i64 (M : Int))).setCell ⟨w.heap.size, 0, none⟩ (.int .i64 2)).setCell ⟨w.heap.size, 1, none⟩ (.int .i64 (M : Int))).setCell ⟨w.heap.size, 2, none⟩ (.string { data := #[] }) = W at HO3 ⊢
      obtain ⟨hA, hB⟩ := HE3.out W hW.symm
      obtain ⟨e0, e1, e2⟩ := HO3.loc.three
      exact bodyPost_ret (v := .agg #[.int .i64 2, .int .i64 (M : Int), .string { data := #[] }]) (by simp [results, Tryz.results78, go_sem, e0, e1, e2]) rfl ⟨rfl, hA, hB⟩
  by_cases h3 : rdN 1 (l.drop p) = 3
  · have e : spV l p = (⟨3, 0, (spT (rdN 1 (l.drop (p + 1))) l (p + 1 + 1)).1⟩, (spT (rdN 1 (l.drop (p + 1))) l (p + 1 + 1)).2) := by unfold spV; rw [if_neg h1, if_neg h2, if_pos h3]
    rw [e]
    rw [h3] at HN
    simp only
    clear HS h1 h2 h3 e
    generalize (spT (rdN 1 (l.drop (p + 1))) l (p + 1 + 1)).2 = P2 at HX ⊢
    generalize (spT (rdN 1 (l.drop (p + 1))) l (p + 1 + 1)).1 = X at HX ⊢
    generalize rdN 1 (l.drop (p + 1)) = M at HN2 HX
    go_enter Tryz.func78, Tryz.ntmps78
    go_wp2_with fail
    refine (HN.out _ (HR.out.on (by repeat (first | with_reducible exact Below.refl _ _ | with_reducible assumption | with_reducible refine ch_alloc ?_ _ | with_reducible refine Below.drew ?_ | with_reducible refine below_draws _ ?_ | (with_reducible refine Below.setCell ?_ ?_ _; rotate_left; focus (first | with_reducible exact Nat.le_refl _ | (simp; done) | (simp; omega) | (simp at *; omega))) | with_reducible refine ch_trans ?_ (by with_reducible assumption))))).mono ?_
    rintro e w1 ⟨rfl, hd, ht⟩
    have HD : Hid (SdB w1 R l (p + 1)) := hd
    have HO1 : Own w1 w.heap.size 128 #[.int .i64 0, .int .i64 0, .string { data := #[] }] := (Own.new _ _ _).turned ht (by show ¬ (w.heap.size = R); omega)
    have hs1 : w.heap.size < w1.heap.size := HO1.lt
    have HT : Hid (Turns (· = R) w w1) := ((Turns.refl (· = R) w).below (ch_alloc (Below.refl _ _) _)).trans ht
    clear hd ht
    go_wp2_with fail
    refine (HN2.out _ (HD.out.on (by repeat (first | with_reducible exact Below.refl _ _ | with_reducible assumption | with_reducible refine ch_alloc ?_ _ | with_reducible refine Below.drew ?_ | with_reducible refine below_draws _ ?_ | (with_reducible refine Below.setCell ?_ ?_ _; rotate_left; focus (first | with_reducible exact Nat.le_refl _ | (simp; done) | (simp; omega) | (simp at *; omega))) | with_reducible refine ch_trans ?_ (by with_reducible assumption))))).mono ?_
    rintro e w2 ⟨rfl, hd, ht⟩
    have HO2 : Own w2 w.heap.size 128 #[.int .i64 0, .int .i64 0, .string { data := #[] }] := (HO1.on (ch_alloc (Below.refl _ _) _)).turned ht (by show ¬ (w.heap.size = R); omega)
    have HV2 : Own w2 w1.heap.size 128 #[.int .i64 3, .int .i64 0, .string { data := #[] }] := (Own.new _ _ _).turned ht (by show ¬ (w1.heap.size = R); omega)
    have hs2 : w1.heap.size < w2.heap.size := HV2.lt
    have HD2 : Hid (SdB w2 R l (p + 1 + 1)) := hd
    have HT2 : Hid (Turns (· = R) w w2) := (HT.out.below (ch_alloc (Below.refl _ _) _)).trans ht
    clear hd ht
    go_wp2_with fail
    refine (HX.out _ HD2.out).mono ?_
    rintro e w3 ⟨rfl, hd, ht⟩
    have HO3' : Own w3 w.heap.size 128 #[.int .i64 0, .int .i64 0, .string { data := #[] }] := HO2.turned ht (by show ¬ (w.heap.size = R); omega)
    have HV3 : Own w3 w1.heap.size 128 #[.int .i64 3, .int .i64 0, .string { data := #[] }] := HV2.turned ht (by show ¬ (w1.heap.size = R); omega)
    have HD3 : Hid (SdB w3 R l (P2)) := hd
    have HT3 : Hid (Turns (· = R) w w3) := HT2.out.trans ht
    clear hd ht
    obtain ⟨c0, c1, c2⟩ := HV3.loc.three
    obtain ⟨d0, d1, d2⟩ := HO3'.loc.three
    have f0 := HV3.frozen 2
    have k0 := HO3'.frozen 0
    have k1 := HO3'.frozen 1
    have k2 := HO3'.frozen 2
    go_wp2
    have HO3 : Own _ w.heap.size 128 #[.int .i64 3, .int .i64 0, .string X] := own3 (HO3'.other (p := ⟨w1.heap.size, 2, none⟩) (by simp; omega) (.string X)) (.int .i64 3) (.int .i64 0) (.string X)
    have HB3 : Hid (Below w3.heap.size w3 w3) := Below.refl _ _
    have HE3 : Hid (∀ W : World, W = (((w3.setCell ⟨w1.heap.size, 2, none⟩ (.string X)).setCell ⟨w.heap.size, 0, none⟩ (.int .i64 3)).setCell ⟨w.heap.size, 1, none⟩ (.int .i64 0)).setCell ⟨w.heap.size, 2, none⟩ (.string X) → SdB W R l (P2) ∧ Turns (· = R) w W) := fun W hW => by
      subst hW
      exact sd_stores HD3.out HT3.out hRw hs1 _ _ _ _ _
    generalize hW : (((w3.setCell ⟨w1.heap.size, 2, none⟩ (.string X)).setCell ⟨w.heap.size, 0, none⟩ (.int .i64 3)).setCell ⟨w.heap.size, 1, none⟩ (.int .i64 0)).setCell ⟨w.heap.size, 2, none⟩ (.string X) = W at HO3 ⊢
    obtain ⟨hA, hB⟩ := HE3.out W hW.symm
    obtain ⟨e0, e1, e2⟩ := HO3.loc.three
    exact bodyPost_ret (v := .agg #[.int .i64 3, .int .i64 0, .string X]) (by simp [results, Tryz.results78, go_sem, e0, e1, e2]) rfl ⟨rfl, hA, hB⟩
  have e : spV l p = (⟨(rdN 1 (l.drop p) : Int), 0, ⟨#[]⟩⟩, p + 1) := by unfold spV; rw [if_neg h1, if_neg h2, if_neg h3]
  rw [e]
  simp only
  clear HN2 HS HX e
  generalize rdN 1 (l.drop p) = N at HN h1 h2 h3 ⊢
  have n1 : ((N : Int) == 1) = false := by simp; omega
  have n2 : ((N : Int) == 2) = false := by simp; omega
  have n3 : ((N : Int) == 3) = false := by simp; omega
  clear h1 h2 h3
  go_enter Tryz.func78, Tryz.ntmps78
  go_wp2_with fail
  refine (HN.out _ (HR.out.on (by repeat (first | with_reducible exact Below.refl _ _ | with_reducible assumption | with_reducible refine ch_alloc ?_ _ | with_reducible refine Below.drew ?_ | with_reducible refine below_draws _ ?_ | (with_reducible refine Below.setCell ?_ ?_ _; rotate_left; focus (first | with_reducible exact Nat.le_refl _ | (simp; done) | (simp; omega) | (simp at *; omega))) | with_reducible refine ch_trans ?_ (by with_reducible assumption))))).mono ?_
  rintro e w1 ⟨rfl, hd, ht⟩
  have HD : Hid (SdB w1 R l (p + 1)) := hd
  have HO1 : Own w1 w.heap.size 128 #[.int .i64 0, .int .i64 0, .string { data := #[] }] := (Own.new _ _ _).turned ht (by show ¬ (w.heap.size = R); omega)
  have hs1 : w.heap.size < w1.heap.size := HO1.lt
  have HT : Hid (Turns (· = R) w w1) := ((Turns.refl (· = R) w).below (ch_alloc (Below.refl _ _) _)).trans ht
  clear hd ht
  obtain ⟨d0, d1, d2⟩ := HO1.loc.three
  have k0 := HO1.frozen 0
  have k1 := HO1.frozen 1
  have k2 := HO1.frozen 2
  go_wp2
  have HO3 : Own ((((w1.setCell ⟨w.heap.size, 0, none⟩ (.int .i64 (N : Int))).setCell ⟨w.heap.size, 1, none⟩ (.int .i64 0)).setCell ⟨w.heap.size, 2, none⟩ (.string { data := #[] })).alloc (.cells #[.int .i64 (N : Int), .int .i64 0, .string { data := #[] }] 128)) w.heap.size 128 #[.int .i64 (N : Int), .int .i64 0, .string { data := #[] }] := (own3 HO1 (.int .i64 (N : Int)) (.int .i64 0) (.string { data := #[] })).on (ch_alloc (Below.refl _ _) _)
  obtain ⟨hA, hB⟩ := sd_stores3 HD.out HT.out hRw (.int .i64 (N : Int)) (.int .i64 0) (.string { data := #[] })
  have HA : Hid (SdB ((((w1.setCell ⟨w.heap.size, 0, none⟩ (.int .i64 (N : Int))).setCell ⟨w.heap.size, 1, none⟩ (.int .i64 0)).setCell ⟨w.heap.size, 2, none⟩ (.string { data := #[] })).alloc (.cells #[.int .i64 (N : Int), .int .i64 0, .string { data := #[] }] 128)) R l (p + 1)) := hA.on (ch_alloc (Below.refl _ _) _)
  have HB : Hid (Turns (· = R) w ((((w1.setCell ⟨w.heap.size, 0, none⟩ (.int .i64 (N : Int))).setCell ⟨w.heap.size, 1, none⟩ (.int .i64 0)).setCell ⟨w.heap.size, 2, none⟩ (.string { data := #[] })).alloc (.cells #[.int .i64 (N : Int), .int .i64 0, .string { data := #[] }] 128))) := hB.below (ch_alloc (Below.refl _ _) _)
  clear hA hB
  generalize (((w1.setCell ⟨w.heap.size, 0, none⟩ (.int .i64 (N : Int))).setCell ⟨w.heap.size, 1, none⟩ (.int .i64 0)).setCell ⟨w.heap.size, 2, none⟩ (.string { data := #[] })).alloc (.cells #[.int .i64 (N : Int), .int .i64 0, .string { data := #[] }] 128) = W at HO3 HA HB ⊢
  obtain ⟨e0, e1, e2⟩ := HO3.loc.three
  exact bodyPost_ret (v := .agg #[.int .i64 (N : Int), .int .i64 0, .string { data := #[] }]) (by simp [results, Tryz.results78, go_sem, e0, e1, e2]) rfl ⟨rfl, HA.out, HB.out⟩
end Go.Proofs.YtikccmgpmbnkfaaGreat
