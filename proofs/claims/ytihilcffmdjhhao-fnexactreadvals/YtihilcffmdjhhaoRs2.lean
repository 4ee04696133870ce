/- The given reader of bytes. -/
import Derived.Test.YtihilcffmdjhhaoRj
namespace Go.Proofs.Ytihilcffmdjhhao
open Go.ChangeShapes Go.WideShapes Go.ChangeAt Go.RowKit

/-- A text of n bytes from a place on, and the place behind it. -/
def spT (n : Nat) (l : List UInt8) (p : Nat) : ByteArray × Nat := if p + n ≤ l.length then (⟨((l.drop p).take n).toArray⟩, p + n) else (⟨#[]⟩, l.length + 1)
/-- A value from a place on, and the place behind it. -/
def spV (l : List UInt8) (p : Nat) : Vc × Nat :=
  if rdN 1 (l.drop p) = 1 then (⟨1, (rdN 1 (l.drop (p + 1)) : Int), ⟨#[]⟩⟩, p + 1 + 1)
  else if rdN 1 (l.drop p) = 2 then (⟨2, if rdN 1 (l.drop (p + 1)) = 1 then -(rdN 6 (l.drop (p + 1 + 1)) : Int) else (rdN 6 (l.drop (p + 1 + 1)) : Int), ⟨#[]⟩⟩, p + 1 + 1 + 6)
  else if rdN 1 (l.drop p) = 3 then (⟨3, 0, (spT (rdN 1 (l.drop (p + 1))) l (p + 1 + 1)).1⟩, (spT (rdN 1 (l.drop (p + 1))) l (p + 1 + 1)).2)
  else (⟨(rdN 1 (l.drop p) : Int), 0, ⟨#[]⟩⟩, p + 1)
def spVs : Nat → List UInt8 → Nat → List Vc × Nat
  | 0, _, p => ([], p)
  | n + 1, l, p => ((spV l p).1 :: (spVs n l (spV l p).2).1, (spVs n l (spV l p).2).2)
/-- The given reader at R stands at place p of l. -/
def SdB (w : World) (R : Nat) (l : List UInt8) (p : Nat) : Prop := ∃ b off cap, Own w R 91 #[.slice (some ⟨b, off, none⟩) l.length cap, .int .i64 (p : Int)] ∧ b < R ∧ l.length ≤ cap ∧ cap ≤ maxLen ∧ RowAt w (some ⟨b, off, none⟩) 1 (l.map byX)
theorem SdB.on {w w' : World} {R p : Nat} {l : List UInt8} (h : SdB w R l p) (k : Below w.heap.size w w') : SdB w' R l p := by
  obtain ⟨b, off, cap, h1, h2, h3, h4, h5⟩ := h
  exact ⟨b, off, cap, h1.on k, h2, h3, h4, h5.on k⟩
theorem SdB.move {w : World} {R p : Nat} {l : List UInt8} (h : SdB w R l p) (q : Nat) : SdB (w.setCell ⟨R, 1, none⟩ (.int .i64 (q : Int))) R l q := by
  obtain ⟨b, off, cap, h1, h2, h3, h4, h5⟩ := h
  exact ⟨b, off, cap, h1.set 1 _, h2, h3, h4, h5.set (fun q hq => by cases hq; exact Nat.ne_of_lt h2) _⟩
theorem SdB.moveI {w : World} {R p : Nat} {l : List UInt8} (h : SdB w R l p) (q : Nat) (i : Int) (hi : i = (q : Int)) : SdB (w.setCell ⟨R, 1, none⟩ (.int .i64 i)) R l q := hi ▸ h.move q
theorem SdB.draws {w : World} {R p : Nat} {l : List UInt8} (h : SdB w R l p) (k : Nat) : SdB (w.drewN k) R l p := h.on (below_draws _ (Below.refl _ _))
theorem Turns.draws {S : Nat → Prop} {a b : World} (h : Turns S a b) (k : Nat) : Turns S a (b.drewN k) := h.below (below_draws _ (Below.refl _ _))
theorem SdB.other {w : World} {R p : Nat} {l : List UInt8} (h : SdB w R l p) {a : Addr} (hp : R < a.block) (u : Value) : SdB (w.setCell a u) R l p := by
  obtain ⟨b, off, cap, ho, hb, h3, h4, hr⟩ := h
  exact ⟨b, off, cap, ho.other (by omega) u, hb, h3, h4, hr.set (fun q hq => by cases hq; show b ≠ a.block; omega) u⟩
set_option maxRecDepth 100000 in
set_option maxHeartbeats 1000000 in
/-- spec.l06Take -/
theorem l06Take_any (R s p : Nat) (l : List UInt8) (w : World) (h : SdB w R l p) (h1 : 1 ≤ s) (h6 : s ≤ 6) (hp : p ≤ 1000000000) :
    Calls Try.prog 53 #[.pointer (some ⟨R, 0, none⟩), .int .i64 (s : Int)] w fun e w' => e = .returned (.int .i64 (rdN s (l.drop p) : Int)) ∧ SdB w' R l (p + s) ∧ Turns (· = R) w w' := by
  have HS : Hid (SdB w R l p) := h
  obtain ⟨b, off, cap, ho, hbR, hlc, hcm, hr⟩ := h
  have HB : Hid (BytesV w (.slice (some ⟨b, off, none⟩) l.length cap) l) := ⟨_, _, rfl, hlc, hcm, hr⟩
  obtain ⟨g, hg⟩ : ∃ g : Bool, (g = true ∧ okGet l (p : Int) (s : Int) ∧ rdN s (l.drop p) = getL l ((p : Int)).toNat ((s : Int)).toNat) ∨ (g = false ∧ ¬ okGet l (p : Int) (s : Int) ∧ rdN s (l.drop p) = 0) := by
    by_cases hs : p + s ≤ l.length
    · refine ⟨true, Or.inl ⟨rfl, ⟨by omega, by omega, by omega, by omega⟩, ?_⟩⟩
      unfold rdN getL
      rw [if_pos (by simp; omega)]
      simp
    · refine ⟨false, Or.inr ⟨rfl, fun hh => ?_, ?_⟩⟩
      · have := hh.2.2.2
        omega
      · unfold rdN
        rw [if_neg (by simp; omega)]
  have HGN : Hid (∀ (u : World) (v : Value), BytesV u v l → Calls Try.prog 91 #[v, .int .i64 (p : Int), .int .i64 (s : Int)] u fun e w' => e = .returned (.tuple #[.int .i64 (rdN s (l.drop p) : Int), .bool g]) ∧ Below u.heap.size u w') := fun u v hu => getNum_spec v l p s u hu ⟨by omega, by omega⟩ ⟨by omega, by omega⟩ g (rdN s (l.drop p)) hg
  have g0 := ho.loc.two
  obtain ⟨c0, c1⟩ := g0
  clear hg hr
  generalize rdN s (l.drop p) = N at HGN ⊢
  go_enter Try.func53, Try.ntmps53
  go_wp2_with fail
  go_region_with (go_at_call 91; refine (HGN.out _ _ (HB.out.on (by repeat (first | with_reducible exact Below.refl _ _ | with_reducible assumption | with_reducible refine ch_alloc ?_ _ | with_reducible refine Below.drew ?_ | with_reducible refine below_draws _ ?_ | (with_reducible refine Below.setCell ?_ ?_ _; rotate_left; focus (first | with_reducible exact Nat.le_refl _ | (simp; done) | (simp; omega) | (simp at *; omega))) | with_reducible refine ch_trans ?_ (by with_reducible assumption))))).mono ?_; rintro e w1 ⟨rfl, b1⟩; have HO1 := ho.on (w' := w1) (by repeat (first | with_reducible exact Below.refl _ _ | with_reducible assumption | with_reducible refine ch_alloc ?_ _ | with_reducible refine Below.drew ?_ | with_reducible refine below_draws _ ?_ | (with_reducible refine Below.setCell ?_ ?_ _; rotate_left; focus (first | with_reducible exact Nat.le_refl _ | (simp; done) | (simp; omega) | (simp at *; omega))) | with_reducible refine ch_trans ?_ (by with_reducible assumption))); have HS1 : Hid (SdB w1 R l p) := HS.out.on (by repeat (first | with_reducible exact Below.refl _ _ | with_reducible assumption | with_reducible refine ch_alloc ?_ _ | with_reducible refine Below.drew ?_ | with_reducible refine below_draws _ ?_ | (with_reducible refine Below.setCell ?_ ?_ _; rotate_left; focus (first | with_reducible exact Nat.le_refl _ | (simp; done) | (simp; omega) | (simp at *; omega))) | with_reducible refine ch_trans ?_ (by with_reducible assumption))); have HT1 : Hid (Turns (· = R) w w1) := (Turns.refl (· = R) w).below (show Below w.heap.size w w1 from (by repeat (first | with_reducible exact Below.refl _ _ | with_reducible assumption | with_reducible refine ch_alloc ?_ _ | with_reducible refine Below.drew ?_ | with_reducible refine below_draws _ ?_ | (with_reducible refine Below.setCell ?_ ?_ _; rotate_left; focus (first | with_reducible exact Nat.le_refl _ | (simp; done) | (simp; omega) | (simp at *; omega))) | with_reducible refine ch_trans ?_ (by with_reducible assumption)))); obtain ⟨d0, d1⟩ := HO1.loc.two; have i1 := HO1.frozen 1)
  all_goals
    have HS2 : Hid (SdB (w1.setCell ⟨R, 1, none⟩ (.int .i64 ((p + s : Nat) : Int))) R l (p + s)) := HS1.out.move (p + s)
    have HT2 : Hid (Turns (· = R) w (w1.setCell ⟨R, 1, none⟩ (.int .i64 ((p + s : Nat) : Int)))) := HT1.out.set rfl _
    rw [show ((p + s : Nat) : Int) = (p : Int) + (s : Int) by omega] at HS2 HT2
    go_wp2
    go_ret
    exact ⟨rfl, HS2.out, HT2.out⟩
set_option maxRecDepth 100000 in
set_option maxHeartbeats 1000000 in
/-- spec.l06Text -/
theorem l06Text_any (R n p : Nat) (l : List UInt8) (w : World) (h : SdB w R l p) (hn : n ≤ 255) (hp : p ≤ 1000000000) (hl : l.length ≤ 1048576) :
    Calls Try.prog 54 #[.pointer (some ⟨R, 0, none⟩), .int .i64 (n : Int)] w fun e w' => e = .returned (.string (spT n l p).1) ∧ SdB w' R l (spT n l p).2 ∧ Turns (· = R) w w' := by
  have HS : Hid (SdB w R l p) := h
  obtain ⟨b, off, cap, ho, hbR, hlc, hcm, hr⟩ := h
  have hcm' := hcm
  unfold maxLen at hcm'
  obtain ⟨c0, c1⟩ := ho.loc.two
  have i1 := ho.frozen 1
  by_cases hin : p + n ≤ l.length
  · have e : spT n l p = (⟨((l.drop p).take n).toArray⟩, p + n) := by unfold spT; rw [if_pos hin]
    rw [e]
    have h1 : decide ((l.length : Int) - (p : Int) < (n : Int)) = false := decide_eq_false (by omega)
    have h2 : decide ((l.length : Int) < (p : Int)) = false := decide_eq_false (by omega)
    have HS2 : Hid (SdB (w.setCell ⟨R, 1, none⟩ (.int .i64 ((p : Int) + (n : Int)))) R l (p + n)) := by
      have := HS.out.move (p + n)
      rwa [show ((p + n : Nat) : Int) = (p : Int) + (n : Int) by omega] at this
    have HT2 : Hid (Turns (· = R) w (w.setCell ⟨R, 1, none⟩ (.int .i64 ((p : Int) + (n : Int))))) := (Turns.refl (· = R) w).set rfl _
    have HR2 : Hid (RowAt (w.setCell ⟨R, 1, none⟩ (.int .i64 ((p : Int) + (n : Int)))) (some ⟨b, off + p, none⟩) 1 (((l.drop p).take n).map byX)) := row_take (row_drop (hr.set (fun q hq => by cases hq; exact Nat.ne_of_lt hbR) _))
    have hlt : ((l.drop p).take n).length = n := by simp; omega
    clear e
    clear HS2 HT2 HR2
    by_cases hcp : cap = p
    · obtain rfl : n = 0 := by omega
      have e0 : (l.drop p).take 0 = [] := rfl
      rw [e0]
      subst hcp
      have h3 : decide (l.length < cap) = false := decide_eq_false (by omega)
      have h4 : decide ((l.length : Int) < (cap : Int)) = false := decide_eq_false (by omega)
      have h5 : decide ((l.length : Int) - (cap : Int) < 0) = false := decide_eq_false (by omega)
      clear h1 h2 hlt
      go_enter Try.func54, Try.ntmps54
      go_wp2
      go_quiet (fail)
      go_wp2
      have hcv := fun k : Nat => conv_back (((w.drewN nq).setCell ⟨R, 1, none⟩ (.int .i64 ((cap : Int)))).drewN k) b off 0 [] (RowAt.nil _ _ _)
      rw [List.length_nil] at hcv
      go_quiet (fail)
      go_wp2
      go_ret
      exact ⟨rfl, ((HS.out.draws _).moveI _ _ (by omega)).draws _, (((Turns.refl (· = R) w).draws _).set rfl _).draws _⟩
    · have hcp2 : p < cap := by omega
      go_enter Try.func54, Try.ntmps54
      go_wp2
      go_quiet (fail)
      go_wp2
      have hcv := fun k : Nat => conv_back (((w.drewN nq).setCell ⟨R, 1, none⟩ (.int .i64 ((p : Int) + (n : Int)))).drewN k) b (off + p) (cap - p) ((l.drop p).take n) ((row_take (row_drop ((hr.on (below_draws _ (Below.refl _ _))).set (fun q hq => by cases hq; exact Nat.ne_of_lt hbR) _))).on (below_draws _ (Below.refl _ _)))
      rw [hlt] at hcv
      go_quiet (fail)
      go_wp2
      go_ret
      exact ⟨rfl, ((HS.out.draws _).moveI _ _ (by omega)).draws _, (((Turns.refl (· = R) w).draws _).set rfl _).draws _⟩
  · have e : spT n l p = (⟨#[]⟩, l.length + 1) := by unfold spT; rw [if_neg hin]
    rw [e]
    have h1 : decide ((l.length : Int) - (p : Int) < (n : Int)) = true := decide_eq_true (by omega)
    clear e hin
    go_enter Try.func54, Try.ntmps54
    go_wp2
    go_quiet (fail)
    go_wp2
    go_ret
    exact ⟨rfl, (HS.out.draws _).moveI _ _ (by omega), ((Turns.refl (· = R) w).draws _).set rfl _⟩
end Go.Proofs.Ytihilcffmdjhhao
