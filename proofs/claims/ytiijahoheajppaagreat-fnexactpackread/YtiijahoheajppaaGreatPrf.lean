/- The given PackRead. -/
import Derived.Test.YtiijahoheajppaaGreatPre
import Derived.Test.YtiijahoheajppaaGreatRs2
import Derived.Test.YtiijahoheajppaaGreatRs2
import Derived.Test.YtiijahoheajppaaGreatPkg
import Derived.Test.YtiijahoheajppaaGreatPkg
namespace Go.Proofs.YtiijahoheajppaaGreat
open Go.ChangeShapes Go.WideShapes Go.ChangeAt Go.RowKit

set_option maxRecDepth 100000 in
set_option maxHeartbeats 1000000 in
/-- spec.l06Text -/
theorem l06Text_wide (R n p : Nat) (l : List UInt8) (w : World) (h : SdB w R l p) (hn : n ≤ 65535) (hp : p ≤ 1000000000) (hl : l.length ≤ 1048576) :
    Calls Tryz.prog 40 #[.pointer (some ⟨R, 0, none⟩), .int .i64 (n : Int)] w fun e w' => e = .returned (.string (spT n l p).1) ∧ SdB w' R l (spT n l p).2 ∧ Turns (· = R) w w' := by
  have HS : Hid (SdB w R l p) := h
  obtain ⟨b, off, cap, ho, hbR, hlc, hcm, hr⟩ := h
  have hcm' := hcm
  unfold maxLen at hcm'
  obtain ⟨c0, c1⟩ := ho.loc.two
  have i1 := ho.frozen 1
  by_cases hin : p + n ≤ l.length
  · have e : spT n l p = (⟨((l.drop p).take n).toArray⟩, p + n) := by unfold spT; rw [if_pos hin]
    rw [e]
    have h1 : decide ((l.length : Int) - (p : Int) < (n : Int)) = false := decide_eq_false (by omega)
    have h2 : decide ((l.length : Int) < (p : Int)) = false := decide_eq_false (by omega)
    have HS2 : Hid (SdB (w.setCell ⟨R, 1, none⟩ (.int .i64 ((p : Int) + (n : Int)))) R l (p + n)) := by
      have := HS.out.move (p + n)
      rwa [show ((p + n : Nat) : Int) = (p : Int) + (n : Int) by omega] at this
    have HT2 : Hid (Turns (· = R) w (w.setCell ⟨R, 1, none⟩ (.int .i64 ((p : Int) + (n : Int))))) := (Turns.refl (· = R) w).set rfl _
    have HR2 : Hid (RowAt (w.setCell ⟨R, 1, none⟩ (.int .i64 ((p : Int) + (n : Int)))) (some ⟨b, off + p, none⟩) 1 (((l.drop p).take n).map byX)) := row_take (row_drop (hr.set (fun q hq => by cases hq; exact Nat.ne_of_lt hbR) _))
    have hlt : ((l.drop p).take n).length = n := by simp; omega
    clear e
    clear HS2 HT2 HR2
    by_cases hcp : cap = p
    · obtain rfl : n = 0 := by omega
      have e0 : (l.drop p).take 0 = [] := rfl
      rw [e0]
      subst hcp
      have h3 : decide (l.length < cap) = false := decide_eq_false (by omega)
      have h4 : decide ((l.length : Int) < (cap : Int)) = false := decide_eq_false (by omega)
      have h5 : decide ((l.length : Int) - (cap : Int) < 0) = false := decide_eq_false (by omega)
      clear h1 h2 hlt
      go_enter Tryz.func40, Tryz.ntmps40
      go_wp2
      go_quiet (fail)
      go_wp2
      have hcv := fun k : Nat => conv_back (((w.drewN nq).setCell ⟨R, 1, none⟩ (.int .i64 ((cap : Int)))).drewN k) b off 0 [] (RowAt.nil _ _ _)
      rw [List.length_nil] at hcv
      go_quiet (fail)
      go_wp2
      go_ret
      exact ⟨rfl, ((HS.out.draws _).moveI _ _ (by omega)).draws _, (((Turns.refl (· = R) w).draws _).set rfl _).draws _⟩
    · have hcp2 : p < cap := by omega
      go_enter Tryz.func40, Tryz.ntmps40
      go_wp2
      go_quiet (fail)
      go_wp2
      have hcv := fun k : Nat => conv_back (((w.drewN nq).setCell ⟨R, 1, none⟩ (.int .i64 ((p : Int) + (n : Int)))).drewN k) b (off + p) (cap - p) ((l.drop p).take n) ((row_take (row_drop ((hr.on (below_draws _ (Below.refl _ _))).set (fun q hq => by cases hq; exact Nat.ne_of_lt hbR) _))).on (below_draws _ (Below.refl _ _)))
      rw [hlt] at hcv
      go_quiet (fail)
      go_wp2
      go_ret
      exact ⟨rfl, ((HS.out.draws _).moveI _ _ (by omega)).draws _, (((Turns.refl (· = R) w).draws _).set rfl _).draws _⟩
  · have e : spT n l p = (⟨#[]⟩, l.length + 1) := by unfold spT; rw [if_neg hin]
    rw [e]
    have h1 : decide ((l.length : Int) - (p : Int) < (n : Int)) = true := decide_eq_true (by omega)
    clear e hin
    go_enter Tryz.func40, Tryz.ntmps40
    go_wp2
    go_quiet (fail)
    go_wp2
    go_ret
    exact ⟨rfl, (HS.out.draws _).moveI _ _ (by omega), ((Turns.refl (· = R) w).draws _).set rfl _⟩

theorem spT_le (n : Nat) (l : List UInt8) (p : Nat) : (spT n l p).2 ≤ p + n ∨ (spT n l p).2 ≤ l.length + 1 := by
  unfold spT
  split
  · exact Or.inl (Nat.le_refl _)
  · exact Or.inr (Nat.le_refl _)
theorem spT_size (n : Nat) (l : List UInt8) (p : Nat) : (spT n l p).1.size ≤ n := by
  unfold spT
  split
  · show ((l.drop p).take n).toArray.size ≤ n
    simp; omega
  · exact Nat.zero_le _
theorem spKs_le : ∀ n (l : List UInt8) p, (spKs n l p).2 ≤ p + 300 * n ∨ (spKs n l p).2 ≤ l.length + 1 + 300 * n
  | 0, _, _ => Or.inl (Nat.le_refl _)
  | n + 1, l, p => by
    have h1 := spX_le l p
    have h2 := spKs_le n l (spX l p).2
    show (spKs n l (spX l p).2).2 ≤ _ ∨ (spKs n l (spX l p).2).2 ≤ _
    omega
theorem spW_le (l : List UInt8) (p : Nat) : (spW l p).2 ≤ p + 3000 ∨ (spW l p).2 ≤ l.length + 3000 := by
  have h := spKs_le (min (rdN 1 (l.drop p)) 9) l (p + 1)
  show (spKs _ _ _).2 ≤ _ ∨ (spKs _ _ _).2 ≤ _
  omega
theorem Est.Good.above {w : World} {E : Est} (h : E.Good w) {b : Nat} (hb : E.hi ≤ b) (vs : List Value) (o : Nat) : E.Good (stores w b o vs) :=
  h.keep (by rw [stores_sizeR]; exact Nat.le_refl _) fun c _ h2 => (stores_turns b vs w w o (Turns.refl _ _)).block c (by have := h.top; omega) (by show ¬ (c = b); omega)
/-- What stands while the given reader goes over the parts of a batch. -/
structure BatAt (R Bx N P b off cap : Nat) (l : List UInt8) (w u : World) (v : Value) (ts : List Ptc) (cu : Nat) : Prop where
  rd : SdB u R l cu
  x : Own u Bx 33 #[.int .i64 (N : Int), .int .i64 (P : Int), v]
  ps : PartsG u (Bx + 1) v ts
  res : Own u (w.heap.size + 1) 33 #[.int .i64 0, .int .i64 0, .slice none 0 0]
  arg : Own u w.heap.size 28 #[.slice (some ⟨b, off, none⟩) l.length cap]
  old : Below w.heap.size w u
  top : Bx < u.heap.size

set_option maxRecDepth 100000 in
set_option maxHeartbeats 4000000 in
/-- spec.PackRead -/
theorem packRead_spec (b off cap : Nat) (l : List UInt8) (w : World) (hb : b < w.heap.size) (hlc : l.length ≤ cap) (hcm : cap ≤ maxLen) (hl : l.length ≤ 1048576) (hr : RowAt w (some ⟨b, off, none⟩) 1 (l.map byX)) :
    Calls Tryz.prog 24 #[.agg #[.slice (some ⟨b, off, none⟩) l.length cap]] w fun e w' => ∃ (t : Btc) (v : Value) (q : Bool), e = .returned (.tuple #[.agg #[.int .i64 t.lsn, .int .i64 t.prev, v], .bool q]) ∧ isBat l t q ∧ PartsG w' w.heap.size v t.parts ∧ Below w.heap.size w w' := by
  have HRW : Hid (RowAt w (some ⟨b, off, none⟩) 1 (l.map byX)) := hr
  obtain ⟨R, hR⟩ : ∃ R, R = w.heap.size + 1 + 1 := ⟨_, rfl⟩
  have hb0 : Below w.heap.size w (((w.alloc (.cells #[.slice (some ⟨b, off, none⟩) l.length cap] 28)).alloc (.cells #[.int .i64 0, .int .i64 0, .slice none 0 0] 33)).alloc (.cells #[.slice (some ⟨b, off, none⟩) l.length cap, .int .i64 1] 78)) := (by repeat (first | with_reducible exact Below.refl _ _ | with_reducible assumption | with_reducible refine ch_alloc ?_ _ | with_reducible refine Below.drew ?_ | with_reducible refine below_draws _ ?_ | (with_reducible refine Below.setCell ?_ ?_ _; rotate_left; focus (first | with_reducible exact Nat.le_refl _ | (simp; done) | (simp; omega) | (simp at *; omega))) | with_reducible refine ch_trans ?_ (by with_reducible assumption)))
  have HO0 : Own (((w.alloc (.cells #[.slice (some ⟨b, off, none⟩) l.length cap] 28)).alloc (.cells #[.int .i64 0, .int .i64 0, .slice none 0 0] 33)).alloc (.cells #[.slice (some ⟨b, off, none⟩) l.length cap, .int .i64 1] 78)) (w.heap.size + 1) 33 #[.int .i64 0, .int .i64 0, .slice none 0 0] := (Own.at _ _ _ (by simp)).on (ch_alloc (Below.refl _ _) _)
  have HA0 : Own (((w.alloc (.cells #[.slice (some ⟨b, off, none⟩) l.length cap] 28)).alloc (.cells #[.int .i64 0, .int .i64 0, .slice none 0 0] 33)).alloc (.cells #[.slice (some ⟨b, off, none⟩) l.length cap, .int .i64 1] 78)) w.heap.size 28 #[.slice (some ⟨b, off, none⟩) l.length cap] := (Own.new _ _ _).on (ch_alloc (ch_alloc (Below.refl _ _) _) _)
  have HD0 : Hid (SdB (((w.alloc (.cells #[.slice (some ⟨b, off, none⟩) l.length cap] 28)).alloc (.cells #[.int .i64 0, .int .i64 0, .slice none 0 0] 33)).alloc (.cells #[.slice (some ⟨b, off, none⟩) l.length cap, .int .i64 1] 78)) R l 1) := ⟨b, off, cap, Own.at _ _ _ (by simp [hR]), by omega, hlc, hcm, HRW.out.on hb0⟩
  have HT2 : Hid (∀ (u : World) (q : Nat), SdB u R l q → q ≤ 200000000 → Calls Tryz.prog 39 #[.pointer (some ⟨R, 0, none⟩), .int .i64 2] u fun e w' => e = .returned (.int .i64 (rdN 2 (l.drop q) : Int)) ∧ SdB w' R l (q + 2) ∧ Turns (· = R) u w') := fun u q hu hq => l06Take_any R 2 q l u hu (by omega) (by omega) (by omega)
  have HT1 : Hid (∀ (u : World) (q : Nat), SdB u R l q → q ≤ 200000000 → Calls Tryz.prog 39 #[.pointer (some ⟨R, 0, none⟩), .int .i64 1] u fun e w' => e = .returned (.int .i64 (rdN 1 (l.drop q) : Int)) ∧ SdB w' R l (q + 1) ∧ Turns (· = R) u w') := fun u q hu hq => l06Take_any R 1 q l u hu (by omega) (by omega) (by omega)
  have HSB : Hid (spB l = ⟨(rdN 2 (l.drop 1) : Int), (rdN 2 (l.drop (1 + 2)) : Int), (spPs (min (rdN 1 (l.drop (1 + 2 + 2))) 61) l (1 + 2 + 2 + 1)).1⟩) := rfl
  have HFIT : Hid ((spB l).fit ∧ (spB l).few) := spB_fit l
  have HU : Hid (∀ u : Btc, u.right → batL u = l → u = spB l) := fun u h1 h2 => by rw [← h2, spB_bat u h1]
  have hn256 := rdN_byte (l.drop (1 + 2 + 2))
  have hRw : w.heap.size + 1 < R := by omega
  clear hr
  generalize spB l = BB at HSB HFIT HU
  have HN1 : Hid (∀ u : World, SdB u R l 1 → Calls Tryz.prog 39 #[.pointer (some ⟨R, 0, none⟩), .int .i64 2] u fun e w' => e = .returned (.int .i64 (rdN 2 (l.drop 1) : Int)) ∧ SdB w' R l (1 + 2) ∧ Turns (· = R) u w') := fun u hu => HT2.out u 1 hu (by omega)
  have HN2 : Hid (∀ u : World, SdB u R l (1 + 2) → Calls Tryz.prog 39 #[.pointer (some ⟨R, 0, none⟩), .int .i64 2] u fun e w' => e = .returned (.int .i64 (rdN 2 (l.drop (1 + 2)) : Int)) ∧ SdB w' R l (1 + 2 + 2) ∧ Turns (· = R) u w') := fun u hu => HT2.out u (1 + 2) hu (by omega)
  have HN3 : Hid (∀ u : World, SdB u R l (1 + 2 + 2) → Calls Tryz.prog 39 #[.pointer (some ⟨R, 0, none⟩), .int .i64 1] u fun e w' => e = .returned (.int .i64 (rdN 1 (l.drop (1 + 2 + 2)) : Int)) ∧ SdB w' R l (1 + 2 + 2 + 1) ∧ Turns (· = R) u w') := fun u hu => HT1.out u (1 + 2 + 2) hu (by omega)
  generalize rdN 2 (l.drop 1) = N at HSB HN1
  generalize rdN 2 (l.drop (1 + 2)) = P at HSB HN2
  generalize rdN 1 (l.drop (1 + 2 + 2)) = Mn at HSB hn256 HN3
  obtain ⟨M, hM⟩ : ∃ M, M = min Mn 61 := ⟨_, rfl⟩
  rw [← hM] at HSB
  go_enter Tryz.func24, Tryz.ntmps24
  go_wp2_with fail
  rw [← hR]
  clear hR
  refine (HN1.out _ HD0.out).mono ?_
  rintro e w1 ⟨rfl, hd, ht⟩
  have HO1 := HO0.turned ht (by show ¬ (w.heap.size + 1 = R); omega)
  have HA1 := HA0.turned ht (by show ¬ (w.heap.size = R); omega)
  have hb1 : Below w.heap.size w w1 := hb0.trans (ht.toBelow (fun c h => by have h : c = R := h; omega) (by have := hb0.size; omega))
  have hs1 : R < w1.heap.size := by obtain ⟨_, _, _, ho, _⟩ := hd; exact ho.lt
  have HD1 := hd
  clear hd ht HO0 HA0 HD0 hb0
  go_wp2_with fail
  refine (HN2.out _ HD1).mono ?_
  rintro e w2 ⟨rfl, hd, ht⟩
  have HO2 := HO1.turned ht (by show ¬ (w.heap.size + 1 = R); omega)
  have HA2 := HA1.turned ht (by show ¬ (w.heap.size = R); omega)
  have hb2 : Below w.heap.size w w2 := hb1.trans (ht.toBelow (fun c h => by have h : c = R := h; omega) (by have := hb1.size; omega))
  have hs2 : R < w2.heap.size := Nat.lt_of_lt_of_le hs1 ht.size
  have HD2 := hd
  clear hd ht HO1 HA1 HD1 hb1 hs1
  have hb3 : Below w2.heap.size w2 (w2.alloc (.cells #[.int .i64 (N : Int), .int .i64 (P : Int), .slice none 0 0] 33)) := ch_alloc (Below.refl _ _) _
  have HX3 : Own (w2.alloc (.cells #[.int .i64 (N : Int), .int .i64 (P : Int), .slice none 0 0] 33)) w2.heap.size 33 #[.int .i64 (N : Int), .int .i64 (P : Int), .slice none 0 0] := Own.new _ _ _
  have HO3 := HO2.on hb3
  have HA3 := HA2.on hb3
  have HD3 := HD2.on hb3
  have hb3' := ch_trans hb2 hb3
  clear HO2 HA2 HD2 hb3 hb2
  go_wp2_with fail
  generalize w2.alloc (.cells #[.int .i64 (N : Int), .int .i64 (P : Int), .slice none 0 0] 33) = u3 at HX3 HO3 HA3 HD3 hb3' ⊢
  generalize w2.heap.size = Bx at HX3 hs2 ⊢
  refine (HN3.out _ HD3).mono ?_
  rintro e w4 ⟨rfl, hd, ht⟩
  have HI4 : Hid (BatAt R Bx N P b off cap l w w4 (.slice none 0 0) [] (1 + 2 + 2 + 1)) := ⟨hd, HX3.turned ht (by show ¬ (Bx = R); omega), PartsG.nil _ _, HO3.turned ht (by show ¬ (w.heap.size + 1 = R); omega), HA3.turned ht (by show ¬ (w.heap.size = R); omega), hb3'.trans (ht.toBelow (fun c h => by have h : c = R := h; omega) (by have := hb3'.size; omega)), (HX3.turned ht (by show ¬ (Bx = R); omega)).lt⟩
  clear hd ht HX3 HO3 HA3 HD3 hb3'
  go_wp2
  go_loopw [7] (fun i wr => ∃ (j : Nat) (ts : List Ptc) (cu : Nat) (a : Option Addr) (n c : Nat), j ≤ M ∧ i = .int .i64 (j : Int) ∧ ts.length = j ∧ cu ≤ 1000 + 1200000 * j ∧ Hid (ts ++ (spPs (M - j) l cu).1 = (spPs M l (1 + 2 + 2 + 1)).1) ∧ Hid (BatAt R Bx N P b off cap l w wr (.slice a n c) ts cu)) (fun i _ => M - (intOf i).toNat)
  case atStart => exact ⟨0, [], 1 + 2 + 2 + 1, none, 0, 0, Nat.zero_le _, rfl, rfl, by omega, rfl, HI4⟩
  case round =>
    clear HI4
    obtain ⟨j, ts, cu, a, n, c, hj, rfl, htj, hcu, HE, HI⟩ := hrel
    by_cases hlt : j < M
    · have hlti : (j : Int) < Mn := by omega
      have hl60 : (j : Int) ≤ 60 := by omega
      have hwr := HI.out.old.size
      have htop := HI.out.top
      have HNc : Hid (∀ u : World, SdB u R l cu → Calls Tryz.prog 39 #[.pointer (some ⟨R, 0, none⟩), .int .i64 2] u fun e w' => e = .returned (.int .i64 (rdN 2 (l.drop cu) : Int)) ∧ SdB w' R l (cu + 2) ∧ Turns (· = R) u w') := fun u hu => HT2.out u cu hu (by omega)
      have HXc : Hid (∀ u : World, SdB u R l (cu + 2) → Calls Tryz.prog 40 #[.pointer (some ⟨R, 0, none⟩), .int .i64 (rdN 2 (l.drop cu) : Int)] u fun e w' => e = .returned (.string (spT (rdN 2 (l.drop cu)) l (cu + 2)).1) ∧ SdB w' R l (spT (rdN 2 (l.drop cu)) l (cu + 2)).2 ∧ Turns (· = R) u w') := fun u hu => l06Text_wide R _ (cu + 2) l u hu (by have := rdN_short (l.drop cu); omega) (by omega) hl
      have hxs := spT_size (rdN 2 (l.drop cu)) l (cu + 2)
      have hxp := spT_le (rdN 2 (l.drop cu)) l (cu + 2)
      have hk0 := rdN_short (l.drop cu)
      have HPX : Hid (spP l cu = (⟨stOf (spT (rdN 2 (l.drop cu)) l (cu + 2)).1.data.toList, (spW l (spT (rdN 2 (l.drop cu)) l (cu + 2)).2).1, (spW l (spW l (spT (rdN 2 (l.drop cu)) l (cu + 2)).2).2).1⟩, (spW l (spW l (spT (rdN 2 (l.drop cu)) l (cu + 2)).2).2).2)) := rfl
      have HFW : Hid (spP l cu).1.few := (spP_fit l cu).2
      have HE' : Hid ((ts ++ [(spP l cu).1]) ++ (spPs (M - (j + 1)) l (spP l cu).2).1 = (spPs M l (1 + 2 + 2 + 1)).1) := by
        show _ = _
        rw [← HE.out, show M - j = (M - (j + 1)) + 1 by omega, List.append_assoc]; rfl
      clear HE
      generalize spP l cu = PP at HPX HFW HE'
      generalize spT (rdN 2 (l.drop cu)) l (cu + 2) = X at HXc hxs hxp HPX
      generalize rdN 2 (l.drop cu) = K0 at HNc HXc hxs hxp hk0
      have hp1 := spW_le l X.2
      have HW1 : Hid (∀ u : World, SdB u R l X.2 → Calls Tryz.prog 56 #[.pointer (some ⟨R, 0, none⟩)] u fun e w' => ∃ v, e = .returned v ∧ Got w' u.heap.size 9 1 v ((spW l X.2).1.map strX) ∧ SdB w' R l (spW l X.2).2 ∧ Turns (· = R) u w') := fun u hu => l09Take_any R X.2 l u hu (by omega) hl
      generalize spW l X.2 = Y at hp1 HW1 HPX
      have hp2 := spW_le l Y.2
      have HW2 : Hid (∀ u : World, SdB u R l Y.2 → Calls Tryz.prog 56 #[.pointer (some ⟨R, 0, none⟩)] u fun e w' => ∃ v, e = .returned v ∧ Got w' u.heap.size 9 1 v ((spW l Y.2).1.map strX) ∧ SdB w' R l (spW l Y.2).2 ∧ Turns (· = R) u w') := fun u hu => l09Take_any R Y.2 l u hu (by omega) hl
      generalize spW l Y.2 = Z at hp2 HW2 HPX
      have hnx : Z.2 ≤ 1000 + 1200000 * (j + 1) := by omega
      have HRS : Hid (∀ (u : World), Calls Tryz.prog 15 #[.slice (some ⟨u.heap.size, 0, none⟩) X.1.size (grownCap u X.1.size 0 5)] (Lib.bytesWorld u 5 X.1) fun e w' => ∃ (E : Est) (q : Bool), e = .returned (.tuple #[.agg E.cells, .bool q]) ∧ E.s = PP.1.st ∧ u.heap.size < E.lo ∧ E.Good w' ∧ Below (Lib.bytesWorld u 5 X.1).heap.size (Lib.bytesWorld u 5 X.1) w') := fun u => by
        have hsz : X.1.data.toList.length = X.1.size := by simp
        have h := readStmt_spec u.heap.size 0 (grownCap u X.1.size 0 5) X.1.data.toList (Lib.bytesWorld u 5 X.1) (by rw [Lib.bytesWorld_size]; omega) (by rw [hsz]; exact grownCap_ge _ _ _ _) (grownCap_le_maxLen _ _ _ _ (by unfold maxLen; omega)) (by omega) (bytes_row _ _ _)
        rw [hsz] at h
        refine h.mono fun e w' ⟨E, q, he, hi, hlo, hg, hb⟩ => ⟨E, q, he, ?_, ?_, hg, hb⟩
        · rw [HPX.out, isStmt.of hi]
        · rw [Lib.bytesWorld_size] at hlo; omega
      go_wp2_with fail
      refine (HNc.out _ HI.out.rd).mono ?_
      rintro e w1 ⟨rfl, hd, ht⟩
      have HD1 : Hid (SdB w1 R l (cu + 2)) := hd
      have HT1' : Hid (Turns (· = R) wr w1) := ht
      clear hd ht HNc
      go_wp2_with fail
      refine (HXc.out _ HD1.out).mono ?_
      rintro e w2 ⟨rfl, hd, ht⟩
      have HD2 : Hid (SdB w2 R l X.2) := hd
      have HT2' : Hid (Turns (· = R) wr w2) := HT1'.out.trans ht
      have hsz2 : wr.heap.size ≤ w2.heap.size := HT2'.out.size
      clear hd ht HXc HD1 HT1'
      have hcv := conv_bytes w2 X.1
      have HRSc := HRS.out w2
      have hbb : Below w2.heap.size w2 (Lib.bytesWorld w2 5 X.1) := bytes_below _ _ _
      have HD3 : Hid (SdB (Lib.bytesWorld w2 5 X.1) R l X.2) := HD2.out.on hbb
      have HT3' : Hid (Turns (· = R) wr (Lib.bytesWorld w2 5 X.1)) := HT2'.out.below hbb
      go_wp2_with fail
      refine HRSc.mono ?_
      rintro e w4 ⟨E, q, rfl, hes, hlo, hgood, b4⟩
      obtain ⟨T, hT⟩ : ∃ T, T = PP.1.st := ⟨_, rfl⟩
      rw [← hT] at hes
      obtain ⟨ka, kp, ra, rp, ca, cp, oa, op, hcl, _⟩ := hgood.cellsLit hes
      rw [hcl]
      have HCL : Hid (E.s = PP.1.st ∧ E.cells = #[.int .i64 T.kind, .string T.table, .slice ka T.key.length kp, .slice ra T.row.length rp, .int .i64 T.ddl.kind, .string T.ddl.table, .slice ca T.ddl.cols.length cp, .slice oa T.ddl.keys.length op, .string T.ddl.name, .string T.ddl.to]) := ⟨by rw [hes, hT], hcl⟩
      have HPC : Hid (PP.1.cols = Y.1 ∧ PP.1.keys = Z.1 ∧ PP.2 = Z.2) := by rw [HPX.out]; exact ⟨rfl, rfl, rfl⟩
      have hb46 : Below w4.heap.size w4 ((w4.alloc (.cells #[.int .i64 T.kind, .string T.table, .slice ka T.key.length kp, .slice ra T.row.length rp, .int .i64 T.ddl.kind, .string T.ddl.table, .slice ca T.ddl.cols.length cp, .slice oa T.ddl.keys.length op, .string T.ddl.name, .string T.ddl.to] 48)).alloc (.cells #[.int .i64 T.kind, .string T.table, .slice ka T.key.length kp, .slice ra T.row.length rp, .int .i64 T.ddl.kind, .string T.ddl.table, .slice ca T.ddl.cols.length cp, .slice oa T.ddl.keys.length op, .string T.ddl.name, .string T.ddl.to, .slice none 0 0, .slice none 0 0] 68)) := ch_alloc (ch_alloc (Below.refl _ _) _) _
      have HY6 : Own ((w4.alloc (.cells #[.int .i64 T.kind, .string T.table, .slice ka T.key.length kp, .slice ra T.row.length rp, .int .i64 T.ddl.kind, .string T.ddl.table, .slice ca T.ddl.cols.length cp, .slice oa T.ddl.keys.length op, .string T.ddl.name, .string T.ddl.to] 48)).alloc (.cells #[.int .i64 T.kind, .string T.table, .slice ka T.key.length kp, .slice ra T.row.length rp, .int .i64 T.ddl.kind, .string T.ddl.table, .slice ca T.ddl.cols.length cp, .slice oa T.ddl.keys.length op, .string T.ddl.name, .string T.ddl.to, .slice none 0 0, .slice none 0 0] 68)) (w4.heap.size + 1) 68 #[.int .i64 T.kind, .string T.table, .slice ka T.key.length kp, .slice ra T.row.length rp, .int .i64 T.ddl.kind, .string T.ddl.table, .slice ca T.ddl.cols.length cp, .slice oa T.ddl.keys.length op, .string T.ddl.name, .string T.ddl.to, .slice none 0 0, .slice none 0 0] := Own.at _ _ _ (by simp)
      obtain ⟨p0, p1, p2, p3, p4, p5, p6, p7, p8, p9⟩ := (Own.new w4 48 #[.int .i64 T.kind, .string T.table, .slice ka T.key.length kp, .slice ra T.row.length rp, .int .i64 T.ddl.kind, .string T.ddl.table, .slice ca T.ddl.cols.length cp, .slice oa T.ddl.keys.length op, .string T.ddl.name, .string T.ddl.to]).loc.ten
      have HT6' : Hid (Turns (· = R) wr ((w4.alloc (.cells #[.int .i64 T.kind, .string T.table, .slice ka T.key.length kp, .slice ra T.row.length rp, .int .i64 T.ddl.kind, .string T.ddl.table, .slice ca T.ddl.cols.length cp, .slice oa T.ddl.keys.length op, .string T.ddl.name, .string T.ddl.to] 48)).alloc (.cells #[.int .i64 T.kind, .string T.table, .slice ka T.key.length kp, .slice ra T.row.length rp, .int .i64 T.ddl.kind, .string T.ddl.table, .slice ca T.ddl.cols.length cp, .slice oa T.ddl.keys.length op, .string T.ddl.name, .string T.ddl.to, .slice none 0 0, .slice none 0 0] 68))) := (HT3'.out.below b4).below hb46
      have HD6 : Hid (SdB ((w4.alloc (.cells #[.int .i64 T.kind, .string T.table, .slice ka T.key.length kp, .slice ra T.row.length rp, .int .i64 T.ddl.kind, .string T.ddl.table, .slice ca T.ddl.cols.length cp, .slice oa T.ddl.keys.length op, .string T.ddl.name, .string T.ddl.to] 48)).alloc (.cells #[.int .i64 T.kind, .string T.table, .slice ka T.key.length kp, .slice ra T.row.length rp, .int .i64 T.ddl.kind, .string T.ddl.table, .slice ca T.ddl.cols.length cp, .slice oa T.ddl.keys.length op, .string T.ddl.name, .string T.ddl.to, .slice none 0 0, .slice none 0 0] 68)) R l X.2) := (HD3.out.on b4).on hb46
      have HE6 : Hid (E.Good ((w4.alloc (.cells #[.int .i64 T.kind, .string T.table, .slice ka T.key.length kp, .slice ra T.row.length rp, .int .i64 T.ddl.kind, .string T.ddl.table, .slice ca T.ddl.cols.length cp, .slice oa T.ddl.keys.length op, .string T.ddl.name, .string T.ddl.to] 48)).alloc (.cells #[.int .i64 T.kind, .string T.table, .slice ka T.key.length kp, .slice ra T.row.length rp, .int .i64 T.ddl.kind, .string T.ddl.table, .slice ca T.ddl.cols.length cp, .slice oa T.ddl.keys.length op, .string T.ddl.name, .string T.ddl.to, .slice none 0 0, .slice none 0 0] 68))) := hgood.on hb46
      have hE6 : E.hi ≤ w4.heap.size := hgood.top
      have hE0 : wr.heap.size < E.lo := by omega
      have hE1 := hgood.le
      clear hes hT hcl hgood b4 hb46 HT3' HD3 HT2' HD2 hbb hcv HRSc HRS HPX hlo
      go_wp2_with fail
      clear p0 p1 p2 p3 p4 p5 p6 p7 p8 p9
      generalize (w4.alloc (.cells #[.int .i64 T.kind, .string T.table, .slice ka T.key.length kp, .slice ra T.row.length rp, .int .i64 T.ddl.kind, .string T.ddl.table, .slice ca T.ddl.cols.length cp, .slice oa T.ddl.keys.length op, .string T.ddl.name, .string T.ddl.to] 48)).alloc (.cells #[.int .i64 T.kind, .string T.table, .slice ka T.key.length kp, .slice ra T.row.length rp, .int .i64 T.ddl.kind, .string T.ddl.table, .slice ca T.ddl.cols.length cp, .slice oa T.ddl.keys.length op, .string T.ddl.name, .string T.ddl.to, .slice none 0 0, .slice none 0 0] 68) = w6 at HY6 HT6' HD6 HE6 ⊢
      have hw6 := HY6.lt
      refine (HW1.out _ HD6.out).mono ?_
      rintro e w7 ⟨v7, rfl, hg7, hd7, ht7⟩
      obtain ⟨y7, n7, c7, rfl, hg7⟩ := hg7.lit2
      have hw7 := ht7.size
      have hg7l := hg7.lt
      have HY7 := HY6.turned ht7 (by show ¬ (w4.heap.size + 1 = R); omega)
      have HY8 : Own (w7.setCell ⟨w4.heap.size + 1, 10, none⟩ (.slice y7 n7 c7)) (w4.heap.size + 1) 68 #[.int .i64 T.kind, .string T.table, .slice ka T.key.length kp, .slice ra T.row.length rp, .int .i64 T.ddl.kind, .string T.ddl.table, .slice ca T.ddl.cols.length cp, .slice oa T.ddl.keys.length op, .string T.ddl.name, .string T.ddl.to, .slice y7 n7 c7, .slice none 0 0] := HY7.set 10 _
      have HT8' : Hid (Turns (· = R) wr (w7.setCell ⟨w4.heap.size + 1, 10, none⟩ (.slice y7 n7 c7))) := turns_new (b := w4.heap.size + 1) (by omega) [.slice y7 n7 c7] _ 10 (HT6'.out.trans ht7)
      have HD8 : Hid (SdB (w7.setCell ⟨w4.heap.size + 1, 10, none⟩ (.slice y7 n7 c7)) R l Y.2) := hd7.other (a := ⟨w4.heap.size + 1, 10, none⟩) (by show R < w4.heap.size + 1; omega) _
      have HE8 : Hid (E.Good (w7.setCell ⟨w4.heap.size + 1, 10, none⟩ (.slice y7 n7 c7))) := (HE6.out.turned ht7 fun c h => by have h : c = R := h; omega).above (b := w4.heap.size + 1) (by omega) [.slice y7 n7 c7] 10
      have HG8 : Hid (Got (w7.setCell ⟨w4.heap.size + 1, 10, none⟩ (.slice y7 n7 c7)) w6.heap.size 9 1 (.slice y7 n7 c7) (Y.1.map strX)) := hg7.setP (p := ⟨w4.heap.size + 1, 10, none⟩) (by show w4.heap.size + 1 < w6.heap.size; omega) _
      have hz8 : (w7.setCell ⟨w4.heap.size + 1, 10, none⟩ (.slice y7 n7 c7)).heap.size = w7.heap.size := stores_sizeR (w4.heap.size + 1) [.slice y7 n7 c7] w7 10
      obtain ⟨d0, d1, d2, d3, d4, d5, d6, d7, d8, d9, d10, d11⟩ := HY7.loc.twelve
      have k10 := HY7.frozen 10
      clear hg7 hd7 ht7 HY6 HT6' HD6 HE6 HW1
      go_wp2_with fail
      clear d0 d1 d2 d3 d4 d5 d6 d7 d8 d9 d10 d11 k10 HY7
      generalize w7.setCell ⟨w4.heap.size + 1, 10, none⟩ (.slice y7 n7 c7) = w8 at HY8 HT8' HD8 HE8 HG8 hz8 ⊢
      refine (HW2.out _ HD8.out).mono ?_
      rintro e w9 ⟨v9, rfl, hg9, hd9, ht9⟩
      obtain ⟨z9, n9, c9, rfl, hg9⟩ := hg9.lit2
      have hw9 := ht9.size
      have hg9l := hg9.lt
      have HY9 := HY8.turned ht9 (by show ¬ (w4.heap.size + 1 = R); omega)
      have HY10 : Own (w9.setCell ⟨w4.heap.size + 1, 11, none⟩ (.slice z9 n9 c9)) (w4.heap.size + 1) 68 #[.int .i64 T.kind, .string T.table, .slice ka T.key.length kp, .slice ra T.row.length rp, .int .i64 T.ddl.kind, .string T.ddl.table, .slice ca T.ddl.cols.length cp, .slice oa T.ddl.keys.length op, .string T.ddl.name, .string T.ddl.to, .slice y7 n7 c7, .slice z9 n9 c9] := HY9.set 11 _
      have HT10 : Hid (Turns (· = R) wr (w9.setCell ⟨w4.heap.size + 1, 11, none⟩ (.slice z9 n9 c9))) := turns_new (b := w4.heap.size + 1) (by omega) [.slice z9 n9 c9] _ 11 (HT8'.out.trans ht9)
      have HD10 : Hid (SdB (w9.setCell ⟨w4.heap.size + 1, 11, none⟩ (.slice z9 n9 c9)) R l Z.2) := hd9.other (a := ⟨w4.heap.size + 1, 11, none⟩) (by show R < w4.heap.size + 1; omega) _
      have HE10 : E.Good (w9.setCell ⟨w4.heap.size + 1, 11, none⟩ (.slice z9 n9 c9)) := (HE8.out.turned ht9 fun c h => by have h : c = R := h; omega).above (b := w4.heap.size + 1) (by omega) [.slice z9 n9 c9] 11
      have HGy : Got (w9.setCell ⟨w4.heap.size + 1, 11, none⟩ (.slice z9 n9 c9)) w6.heap.size 9 1 (.slice y7 n7 c7) (PP.1.cols.map strX) := by
        rw [HPC.out.1]
        exact (HG8.out.turns ht9 fun c h => by have h : c = R := h; omega).setP (p := ⟨w4.heap.size + 1, 11, none⟩) (by show w4.heap.size + 1 < w6.heap.size; omega) _
      have HGz : Got (w9.setCell ⟨w4.heap.size + 1, 11, none⟩ (.slice z9 n9 c9)) w8.heap.size 9 1 (.slice z9 n9 c9) (PP.1.keys.map strX) := by
        rw [HPC.out.2.1]
        exact hg9.setP (p := ⟨w4.heap.size + 1, 11, none⟩) (by show w4.heap.size + 1 < w8.heap.size; omega) _
      have hz10 : (w9.setCell ⟨w4.heap.size + 1, 11, none⟩ (.slice z9 n9 c9)).heap.size = w9.heap.size := stores_sizeR (w4.heap.size + 1) [.slice z9 n9 c9] w9 11
      obtain ⟨Q, hqt, hqc, hqlo, hqhi, hqg⟩ := Ept.make (t := PP.1) (lo := E.lo) (b3 := (w9.setCell ⟨w4.heap.size + 1, 11, none⟩ (.slice z9 n9 c9)).heap.size) HCL.out.1 HE10 (Nat.le_refl _) (b1 := w6.heap.size) (by omega) (b2 := w8.heap.size) (by omega) (by omega) (Nat.le_refl _) HGy HGz (fun g hg => by have := hg7l g hg; omega) (fun g hg => by have := hg9l g hg; omega) HFW.out
      have HQC : Hid (Q.cells = #[.int .i64 T.kind, .string T.table, .slice ka T.key.length kp, .slice ra T.row.length rp, .int .i64 T.ddl.kind, .string T.ddl.table, .slice ca T.ddl.cols.length cp, .slice oa T.ddl.keys.length op, .string T.ddl.name, .string T.ddl.to, .slice y7 n7 c7, .slice z9 n9 c9]) := by
        show _ = _
        rw [hqc, Est.part_cells E PP.1 HCL.out.1, HCL.out.2]; rfl
      have HQ : Hid (Q.t = PP.1 ∧ wr.heap.size ≤ Q.lo ∧ Q.Good (w9.setCell ⟨w4.heap.size + 1, 11, none⟩ (.slice z9 n9 c9))) := ⟨hqt, by omega, hqg⟩
      have HST : Hid (PartV (w9.setCell ⟨w4.heap.size + 1, 11, none⟩ (.slice z9 n9 c9)) #[.int .i64 T.kind, .string T.table, .slice ka T.key.length kp, .slice ra T.row.length rp, .int .i64 T.ddl.kind, .string T.ddl.table, .slice ca T.ddl.cols.length cp, .slice oa T.ddl.keys.length op, .string T.ddl.name, .string T.ddl.to, .slice y7 n7 c7, .slice z9 n9 c9] PP.1) := by
        have h := hqg.part
        rw [HQC.out, hqt] at h; exact h
      obtain ⟨d0, d1, d2, d3, d4, d5, d6, d7, d8, d9, d10, d11⟩ := HY9.loc.twelve
      have k11 := HY9.frozen 11
      obtain ⟨s0, s1, s2, s3, s4, s5, s6, s7, s8, s9, s10, s11⟩ := HY10.loc.twelve
      have HX10 : Own (w9.setCell ⟨w4.heap.size + 1, 11, none⟩ (.slice z9 n9 c9)) Bx 33 #[.int .i64 (N : Int), .int .i64 (P : Int), .slice a n c] := HI.out.x.turned HT10.out (by show ¬ (Bx = R); omega)
      have HR10 : Hid (Own (w9.setCell ⟨w4.heap.size + 1, 11, none⟩ (.slice z9 n9 c9)) (w.heap.size + 1) 33 #[.int .i64 0, .int .i64 0, .slice none 0 0]) := HI.out.res.turned HT10.out (by show ¬ (w.heap.size + 1 = R); omega)
      have HA10 : Hid (Own (w9.setCell ⟨w4.heap.size + 1, 11, none⟩ (.slice z9 n9 c9)) w.heap.size 28 #[.slice (some ⟨b, off, none⟩) l.length cap]) := HI.out.arg.turned HT10.out (by show ¬ (w.heap.size = R); omega)
      have hB10 : Below w.heap.size w (w9.setCell ⟨w4.heap.size + 1, 11, none⟩ (.slice z9 n9 c9)) := HI.out.old.trans (HT10.out.toBelow (fun c h => by have h : c = R := h; omega) hwr)
      have HXO : Hid (Own (w9.setCell ⟨w4.heap.size + 1, 11, none⟩ (.slice z9 n9 c9)) Bx 33 #[.int .i64 (N : Int), .int .i64 (P : Int), .slice a n c]) := HX10
      obtain ⟨x0, x1, x2⟩ := HX10.loc.three
      obtain ⟨L, h1, h2, h3, h4, h5⟩ := HI.out.ps
      have HL : Hid (L.map (fun e => e.t) = ts ∧ Got wr (Bx + 1) 68 12 (.slice a n c) (L.map Ept.cells) ∧ (∀ e ∈ L, Bx + 1 ≤ e.lo ∧ e.Good wr) ∧ L.Pairwise (fun a b => a.hi ≤ b.lo) ∧ ∀ g, (Value.slice a n c).ownBlock = some g → ∀ e ∈ L, g < e.lo ∨ e.hi ≤ g) := ⟨h1, h2, h3, h4, h5⟩
      have HG10 : Hid (Got (w9.setCell ⟨w4.heap.size + 1, 11, none⟩ (.slice z9 n9 c9)) (Bx + 1) 68 12 (.slice a n c) (L.map Ept.cells)) := h2.turns HT10.out fun c h => by have h : c = R := h; omega
      have hLl : (L.map Ept.cells).length ≤ 1048576 := by
        have h0 := congrArg List.length h1
        rw [List.length_map] at h0 ⊢
        omega
      clear h1 h2 h3 h4 h5 hg9 hd9 ht9 HY8 HY10 HT8' HD8 HE8 HG8 HE10 HGy HGz hqt hqc hqlo hqhi hqg HX10 hg7l hg9l HW2 HCL
      go_wp2_with (at_builtin; refine app_turnK rfl (.tmp 51) (.tmp 53) rfl Tryz.underlying31 infoPrt rfl (by decide) (by decide) (Bx + 1) _ (L.map Ept.cells) rfl (HG10.out.on (ch_alloc (Below.refl _ _) _)) w9.heap.size 1 #[.int .i64 T.kind, .string T.table, .slice ka T.key.length kp, .slice ra T.row.length rp, .int .i64 T.ddl.kind, .string T.ddl.table, .slice ca T.ddl.cols.length cp, .slice oa T.ddl.keys.length op, .string T.ddl.name, .string T.ddl.to, .slice y7 n7 c7, .slice z9 n9 c9] rfl (Own.at (w9.setCell ⟨w4.heap.size + 1, 11, none⟩ (.slice z9 n9 c9)) 68 #[.int .i64 T.kind, .string T.table, .slice ka T.key.length kp, .slice ra T.row.length rp, .int .i64 T.ddl.kind, .string T.ddl.table, .slice ca T.ddl.cols.length cp, .slice oa T.ddl.keys.length op, .string T.ddl.name, .string T.ddl.to, .slice y7 n7 c7, .slice z9 n9 c9] hz10).loc rfl HST.out.oneC (by omega) (by simp; omega) ?_; intro v12 w12 hg12 hb12 ht12 hl12; obtain ⟨a12, n12, c12, rfl, hg12'⟩ := hg12.lit2; have HX12 : Own w12 Bx 33 #[.int .i64 (N : Int), .int .i64 (P : Int), .slice a n c] := (hb12.block Bx (by omega)).trans (HXO.out.on (ch_alloc (Below.refl _ _) _)); obtain ⟨j0, j1, j2⟩ := HX12.loc.three; have i2 := HX12.frozen 2)
      have hba : Below (w9.setCell ⟨w4.heap.size + 1, 11, none⟩ (.slice z9 n9 c9)).heap.size (w9.setCell ⟨w4.heap.size + 1, 11, none⟩ (.slice z9 n9 c9)) ((w9.setCell ⟨w4.heap.size + 1, 11, none⟩ (.slice z9 n9 c9)).alloc (.cells #[.int .i64 T.kind, .string T.table, .slice ka T.key.length kp, .slice ra T.row.length rp, .int .i64 T.ddl.kind, .string T.ddl.table, .slice ca T.ddl.cols.length cp, .slice oa T.ddl.keys.length op, .string T.ddl.name, .string T.ddl.to, .slice y7 n7 c7, .slice z9 n9 c9] 68)) := ch_alloc (Below.refl _ _) _
      have hP : PartsG (w12.setCell ⟨Bx, 2, none⟩ (.slice a12 n12 c12)) (Bx + 1) (.slice a12 n12 c12) (ts ++ [PP.1]) := by
        have h := (PartsG.addT (S := (· = R)) HL.out.2.1 HL.out.2.2.1 HL.out.2.2.2.1 HL.out.2.2.2.2 HT10.out (fun c h => by have h : c = R := h; omega) HQ.out.2.2 HQ.out.2.1 (by omega) hba (by rw [HQC.out]; exact hg12') ht12 hl12).turned (stores_turns Bx [.slice a12 n12 c12] w12 w12 2 (Turns.refl _ _)) fun c h => by have h : c = Bx := h; omega
        rw [← HL.out.1, ← HQ.out.1]
        exact h
      have HI13 : Hid (BatAt R Bx N P b off cap l w (w12.setCell ⟨Bx, 2, none⟩ (.slice a12 n12 c12)) (.slice a12 n12 c12) (ts ++ [PP.1]) Z.2) := by
        have hlt12 := HX12.lt
        refine ⟨((HD10.out.on hba).low (by omega) hb12).other (a := ⟨Bx, 2, none⟩) (by show R < Bx; omega) _, HX12.set 2 _, hP, ?_, ?_, ?_, ?_⟩
        · exact Own.other ((hb12.block (w.heap.size + 1) (by omega)).trans (HR10.out.on hba)) (p := ⟨Bx, 2, none⟩) (by show w.heap.size + 1 ≠ Bx; omega) _
        · exact Own.other ((hb12.block w.heap.size (by omega)).trans (HA10.out.on hba)) (p := ⟨Bx, 2, none⟩) (by show w.heap.size ≠ Bx; omega) _
        · exact stores_below (b := Bx) (by omega) [.slice a12 n12 c12] _ 2 ((ch_trans hB10 hba).trans (hb12.mono (by omega)))
        · have h := stores_sizeR Bx [.slice a12 n12 c12] w12 2
          have h' : (w12.setCell ⟨Bx, 2, none⟩ (.slice a12 n12 c12)).heap.size = w12.heap.size := h
          omega
      have HE13 : Hid ((ts ++ [PP.1]) ++ (spPs (M - (j + 1)) l Z.2).1 = (spPs M l (1 + 2 + 2 + 1)).1) := by
        have h := HE'.out
        rw [HPC.out.2.2] at h; exact h
      clear hP hba hg12 hg12' hb12 ht12 hl12 HL HQ HQC HST HG10 HXO HR10 HA10 hB10 HD10 HT10 HE'
      go_round
      case rel => exact ⟨j + 1, ts ++ [PP.1], Z.2, a12, n12, c12, by omega, by go_num, by simp; omega, hnx, HE13, HI13⟩
      case measure => simp [intOf]; omega
    · have HF : ts = (spPs M l (1 + 2 + 2 + 1)).1 := by
        have := HE.out
        rw [show M - j = 0 by omega, spPs] at this
        simpa using this
      obtain rfl : BB = ⟨(N : Int), (P : Int), ts⟩ := by rw [HSB.out, HF]
      obtain ⟨hrd, hx, hps, hres, harg, hold, htop⟩ := HI.out
      obtain ⟨_, _, e1, _, _, hpv⟩ := hps.read.lit
      cases e1
      have HXV : Hid (BatV wr #[.int .i64 (N : Int), .int .i64 (P : Int), .slice a ts.length c] ⟨(N : Int), (P : Int), ts⟩) := ⟨_, _, rfl, hpv⟩
      have HPS : Hid (PartsG wr (Bx + 1) (.slice a ts.length c) ts) := hps
      have hwr := hold.size
      obtain ⟨qr, Lr, hqr⟩ : ∃ (q : Bool) (L : List UInt8), (q = true ∧ (⟨(N : Int), (P : Int), ts⟩ : Btc).right ∧ L = batL ⟨(N : Int), (P : Int), ts⟩) ∨ (q = false ∧ ¬ (⟨(N : Int), (P : Int), ts⟩ : Btc).right ∧ L = []) := by
        by_cases h : (⟨(N : Int), (P : Int), ts⟩ : Btc).right
        · exact ⟨true, _, Or.inl ⟨rfl, h, rfl⟩⟩
        · exact ⟨false, _, Or.inr ⟨rfl, h, rfl⟩⟩
      obtain ⟨x0, x1, x2⟩ := hx.loc.three
      have h2 : ((j : Int) < Mn ∧ 60 < (j : Int)) ∨ (Mn : Int) ≤ j := by omega
      clear HE HF HSB HI hrd hps hpv HT1 HT2 HN1 HN2 HN3 htj
      rcases h2 with ⟨h2i, h9⟩ | h2i
      all_goals
          go_wp2_with fail
          refine (packOf_spec #[.int .i64 (N : Int), .int .i64 (P : Int), .slice a ts.length c] ⟨(N : Int), (P : Int), ts⟩ wr HXV.out HFIT.out.1 qr Lr hqr).mono ?_
          rintro e w8 ⟨v8, rfl, b8, hg8⟩
          obtain ⟨a8, n8, c8, rfl, hg8⟩ := hg8.lit2
          have hb9 : Below w8.heap.size w8 (w8.alloc (.cells #[.slice a8 n8 c8] 28)) := ch_alloc (Below.refl _ _) _
          have hb89 := ch_trans b8 hb9
          have hbw9 := ch_trans hold hb89
          have HO9 := hres.on hb89
          have HA9 := harg.on hb89
          have HX9 := hx.on hb89
          have HP9 : Hid (PartsG (w8.alloc (.cells #[.slice a8 n8 c8] 28)) (Bx + 1) (.slice a ts.length c) ts) := HPS.out.on hb89
          have HK9 := Own.new w8 28 #[.slice a8 n8 c8]
          have hs8 := b8.size
          have hg9 := hg8.on hb9
          clear x0 x1 x2 hg8
          obtain ⟨d0, d1, d2⟩ := HO9.loc.three
          have k0 := HO9.frozen 0
          have k1 := HO9.frozen 1
          have k2 := HO9.frozen 2
          obtain ⟨x0, x1, x2⟩ := HX9.loc.three
          have g0 := HA9.loc.one
          have g1 := HK9.loc.one
          rcases hqr with ⟨rfl, hok, rfl⟩ | ⟨rfl, hok, rfl⟩
          rotate_left
          · have HIS : Hid (isBat l Btc.zero false) := Or.inr ⟨rfl, fun u h1 h2 => by
              have e := HU.out u h1 h2
              subst e
              exact hok h1, rfl⟩
            have hQ : Own (stores (w8.alloc (.cells #[.slice a8 n8 c8] 28)) (w.heap.size + 1) 0 [.int .i64 0, .int .i64 0, .slice none 0 0]) (w.heap.size + 1) 33 #[.int .i64 0, .int .i64 0, .slice none 0 0] := HO9.fill (old := [_, _, _]) [.int .i64 0, .int .i64 0, .slice none 0 0] rfl
            have HGd : Hid (PartsG (stores (w8.alloc (.cells #[.slice a8 n8 c8] 28)) (w.heap.size + 1) 0 [.int .i64 0, .int .i64 0, .slice none 0 0]) w.heap.size (.slice none 0 0) []) := PartsG.nil _ _
            have HBd : Hid (Below w.heap.size w (stores (w8.alloc (.cells #[.slice a8 n8 c8] 28)) (w.heap.size + 1) 0 [.int .i64 0, .int .i64 0, .slice none 0 0])) := stores_below (by omega) _ _ _ hbw9
            clear HO9 HP9 HU
            simp only [stores, Nat.reduceAdd] at hQ HBd HGd
            go_wp2
            generalize ((((w8.alloc (.cells #[.slice a8 n8 c8] 28)).setCell ⟨w.heap.size + 1, 0, none⟩ (.int .i64 0)).setCell ⟨w.heap.size + 1, 1, none⟩ (.int .i64 0)).setCell ⟨w.heap.size + 1, 2, none⟩ (.slice none 0 0)) = W at hQ HBd HGd ⊢
            obtain ⟨e0, e1, e2⟩ := hQ.loc.three
            exact bodyPost_ret (v := .tuple #[.agg #[.int .i64 0, .int .i64 0, .slice none 0 0], .bool false]) (by simp [results, Tryz.results24, go_sem, e0, e1, e2]) rfl ⟨Btc.zero, _, false, rfl, HIS.out, HGd.out, HBd.out⟩
          · obtain ⟨bb, bo, bc, e2, hr2⟩ := hg9.someV (by simp [batL, batB])
            cases e2
            have hr3 : RowAt (w8.alloc (.cells #[.slice (some ⟨bb, bo, none⟩) (batL ⟨(N : Int), (P : Int), ts⟩).length c8] 28)) (some ⟨b, off, none⟩) 1 (l.map byX) := HRW.out.on hbw9
            have hcv := fun k : Nat => conv_back ((w8.alloc (.cells #[.slice (some ⟨bb, bo, none⟩) (batL ⟨(N : Int), (P : Int), ts⟩).length c8] 28)).drewN k) bb bo c8 (batL ⟨(N : Int), (P : Int), ts⟩) (hr2.on (below_draws _ (Below.refl _ _)))
            have hcv2 := fun k : Nat => conv_back ((w8.alloc (.cells #[.slice (some ⟨bb, bo, none⟩) (batL ⟨(N : Int), (P : Int), ts⟩).length c8] 28)).drewN k) b off cap l (hr3.on (below_draws _ (Below.refl _ _)))
            have hcv3 := conv_back (w8.alloc (.cells #[.slice (some ⟨bb, bo, none⟩) (batL ⟨(N : Int), (P : Int), ts⟩).length c8] 28)) bb bo c8 (batL ⟨(N : Int), (P : Int), ts⟩) hr2
            have hcv4 := conv_back (w8.alloc (.cells #[.slice (some ⟨bb, bo, none⟩) (batL ⟨(N : Int), (P : Int), ts⟩).length c8] 28)) b off cap l hr3
            have HOK : Hid (⟨(N : Int), (P : Int), ts⟩ : Btc).right := hok
            clear hg9 hr2 hok hr3
            by_cases heq : batL ⟨(N : Int), (P : Int), ts⟩ = l
            · have HIS : Hid (isBat l ⟨(N : Int), (P : Int), ts⟩ true) := Or.inl ⟨rfl, HOK.out, heq⟩
              have hq : (batL ⟨(N : Int), (P : Int), ts⟩ == l) = true := by simp [heq]
              have hQ : Own (stores (w8.alloc (.cells #[.slice (some ⟨bb, bo, none⟩) (batL ⟨(N : Int), (P : Int), ts⟩).length c8] 28)) (w.heap.size + 1) 0 [.int .i64 (N : Int), .int .i64 (P : Int), .slice a ts.length c]) (w.heap.size + 1) 33 #[.int .i64 (N : Int), .int .i64 (P : Int), .slice a ts.length c] := HO9.fill (old := [_, _, _]) [.int .i64 (N : Int), .int .i64 (P : Int), .slice a ts.length c] rfl
              have HGd : Hid (PartsG (stores (w8.alloc (.cells #[.slice (some ⟨bb, bo, none⟩) (batL ⟨(N : Int), (P : Int), ts⟩).length c8] 28)) (w.heap.size + 1) 0 [.int .i64 (N : Int), .int .i64 (P : Int), .slice a ts.length c]) w.heap.size (.slice a ts.length c) ts) := (HP9.out.turned (stores_turns (w.heap.size + 1) _ _ _ 0 (Turns.refl _ _)) fun c h => by have h : c = w.heap.size + 1 := h; omega).mono (by omega)
              have HBd : Hid (Below w.heap.size w (stores (w8.alloc (.cells #[.slice (some ⟨bb, bo, none⟩) (batL ⟨(N : Int), (P : Int), ts⟩).length c8] 28)) (w.heap.size + 1) 0 [.int .i64 (N : Int), .int .i64 (P : Int), .slice a ts.length c])) := stores_below (by omega) _ _ _ hbw9
              clear HO9 HP9 HU heq HOK
              simp only [stores, Nat.reduceAdd] at hQ HBd HGd
              go_wp2
              generalize ((((w8.alloc (.cells #[.slice (some ⟨bb, bo, none⟩) (batL ⟨(N : Int), (P : Int), ts⟩).length c8] 28)).setCell ⟨w.heap.size + 1, 0, none⟩ (.int .i64 (N : Int))).setCell ⟨w.heap.size + 1, 1, none⟩ (.int .i64 (P : Int))).setCell ⟨w.heap.size + 1, 2, none⟩ (.slice a ts.length c)) = W at hQ HBd HGd ⊢
              obtain ⟨e0, e1, e2⟩ := hQ.loc.three
              exact bodyPost_ret (v := .tuple #[.agg #[.int .i64 (N : Int), .int .i64 (P : Int), .slice a ts.length c], .bool true]) (by simp [results, Tryz.results24, go_sem, e0, e1, e2]) rfl ⟨⟨(N : Int), (P : Int), ts⟩, _, true, rfl, HIS.out, HGd.out, HBd.out⟩
            · have HIS : Hid (isBat l Btc.zero false) := Or.inr ⟨rfl, fun u h1 h2 => by
                have e := HU.out u h1 h2
                subst e
                exact heq h2, rfl⟩
              have hq : (batL ⟨(N : Int), (P : Int), ts⟩ == l) = false := by simp [heq]
              have hQ : Own (stores (w8.alloc (.cells #[.slice (some ⟨bb, bo, none⟩) (batL ⟨(N : Int), (P : Int), ts⟩).length c8] 28)) (w.heap.size + 1) 0 [.int .i64 0, .int .i64 0, .slice none 0 0]) (w.heap.size + 1) 33 #[.int .i64 0, .int .i64 0, .slice none 0 0] := HO9.fill (old := [_, _, _]) [.int .i64 0, .int .i64 0, .slice none 0 0] rfl
              have HGd : Hid (PartsG (stores (w8.alloc (.cells #[.slice (some ⟨bb, bo, none⟩) (batL ⟨(N : Int), (P : Int), ts⟩).length c8] 28)) (w.heap.size + 1) 0 [.int .i64 0, .int .i64 0, .slice none 0 0]) w.heap.size (.slice none 0 0) []) := PartsG.nil _ _
              have HBd : Hid (Below w.heap.size w (stores (w8.alloc (.cells #[.slice (some ⟨bb, bo, none⟩) (batL ⟨(N : Int), (P : Int), ts⟩).length c8] 28)) (w.heap.size + 1) 0 [.int .i64 0, .int .i64 0, .slice none 0 0])) := stores_below (by omega) _ _ _ hbw9
              clear HO9 HP9 HU heq HOK
              simp only [stores, Nat.reduceAdd] at hQ HBd HGd
              go_wp2
              generalize ((((w8.alloc (.cells #[.slice (some ⟨bb, bo, none⟩) (batL ⟨(N : Int), (P : Int), ts⟩).length c8] 28)).setCell ⟨w.heap.size + 1, 0, none⟩ (.int .i64 0)).setCell ⟨w.heap.size + 1, 1, none⟩ (.int .i64 0)).setCell ⟨w.heap.size + 1, 2, none⟩ (.slice none 0 0)) = W at hQ HBd HGd ⊢
              obtain ⟨e0, e1, e2⟩ := hQ.loc.three
              exact bodyPost_ret (v := .tuple #[.agg #[.int .i64 0, .int .i64 0, .slice none 0 0], .bool false]) (by simp [results, Tryz.results24, go_sem, e0, e1, e2]) rfl ⟨Btc.zero, _, false, rfl, HIS.out, HGd.out, HBd.out⟩
end Go.Proofs.YtiijahoheajppaaGreat
