/- The landed reader of bytes: changes and statements. -/
import Derived.Test.YtiijahoheajppaaGreatRka
import Derived.Test.YtiijahoheajppaaGreatPkf
import Derived.Test.YtiijahoheajppaaGreatGp
namespace Go.Proofs.YtiijahoheajppaaGreat
open Go.ChangeShapes Go.WideShapes Go.ChangeAt Go.RowKit

theorem Got.many {B b : Nat} {T : TypeId} {z : Nat} {v : Value} {xs : List (Array Value)} (hb : b < B) : ∀ (vs : List Value) (w : World) (o : Nat), Got w B T z v xs → Got (stores w b o vs) B T z v xs
  | [], _, _, h => h
  | u :: vs, _, o, h => Got.many hb vs _ _ (h.setP (p := ⟨b, o, none⟩) hb u)
theorem Got.lt {w : World} {B : Nat} {T : TypeId} {z : Nat} {v : Value} {xs : List (Array Value)} (h : Got w B T z v xs) : ∀ g, v.ownBlock = some g → g < w.heap.size := fun g hg => by
  obtain ⟨cur, h⟩ := h.tag hg
  exact (Array.getElem?_eq_some_iff.1 h).1
theorem stores_sizeR (b : Nat) : ∀ (vs : List Value) (w : World) (o : Nat), (stores w b o vs).heap.size = w.heap.size
  | [], _, _ => rfl
  | _ :: vs, _, o => (stores_sizeR b vs _ (o + 1)).trans (by simp [World.setCell])

theorem turns_new {w : World} {R b : Nat} (hb : w.heap.size ≤ b) : ∀ (vs : List Value) (w2 : World) (o : Nat), Turns (· = R) w w2 → Turns (· = R) w (stores w2 b o vs)
  | [], _, _, h => h
  | v :: vs, _, o, h => turns_new hb vs _ _ (h.fresh (p := ⟨b, o, none⟩) hb v)
/-- Stores into a block behind those of a row leave it as it was. -/
theorem gotAbove {B b n : Nat} {T : TypeId} {z : Nat} {v : Value} {xs : List (Array Value)} (hv : ∀ g, v.ownBlock = some g → g < n) (hb : n ≤ b) (vs : List Value) (w : World) (o : Nat) (h : Got w B T z v xs) : Got (stores w b o vs) B T z v xs :=
  h.turned (stores_turns b vs w w o (Turns.refl _ _)) fun c hc hs => by have hs : c = b := hs; have := hv c hc; omega

set_option maxRecDepth 100000 in
set_option maxHeartbeats 1000000 in
theorem ddlR_aux (R : Nat) (w : World) (l D1 D2 D3 D4 D5 : List UInt8) (kd : Int) (tb nm to : ByteArray) (cs : List Cl) (ks : List ByteArray) (h : RdB w R l)
    (HN : Hid (∀ u : World, RdB u R l → Calls Tryz.prog 81 #[.pointer (some ⟨R, 0, none⟩), .int .i64 1] u fun e w' => e = .returned (.int .i64 kd) ∧ RdB w' R D1 ∧ Turns (· = R) u w'))
    (HK : Hid (∀ u : World, RdB u R D1 → Calls Tryz.prog 114 #[.pointer (some ⟨R, 0, none⟩), .func (.func 115) #[] #[]] u fun e w' => ∃ v, e = .returned v ∧ Got w' u.heap.size 131 7 v (cs.map Cl.cells) ∧ RdB w' R D2 ∧ Turns (· = R) u w'))
    (HW : Hid (∀ u : World, RdB u R D2 → Calls Tryz.prog 116 #[.pointer (some ⟨R, 0, none⟩)] u fun e w' => ∃ v, e = .returned v ∧ Got w' u.heap.size 9 1 v (ks.map strX) ∧ RdB w' R D3 ∧ Turns (· = R) u w'))
    (HT1 : Hid (∀ u : World, RdB u R D3 → Calls Tryz.prog 82 #[.pointer (some ⟨R, 0, none⟩)] u fun e w' => e = .returned (.string nm) ∧ RdB w' R D4 ∧ Turns (· = R) u w'))
    (HT2 : Hid (∀ u : World, RdB u R D4 → Calls Tryz.prog 82 #[.pointer (some ⟨R, 0, none⟩)] u fun e w' => e = .returned (.string to) ∧ RdB w' R D5 ∧ Turns (· = R) u w')) :
    Calls Tryz.prog 84 #[.pointer (some ⟨R, 0, none⟩), .string tb] w fun e w' => ∃ a n c a' n' c' m, e = .returned (.agg #[.int .i64 kd, .string tb, .slice a n c, .slice a' n' c', .string nm, .string to]) ∧ Got w' w.heap.size 131 7 (.slice a n c) (cs.map Cl.cells) ∧ Got w' m 9 1 (.slice a' n' c') (ks.map strX) ∧ (∀ g, (Value.slice a n c).ownBlock = some g → g < m) ∧ w.heap.size ≤ m ∧ m ≤ w'.heap.size ∧ RdB w' R D5 ∧ Turns (· = R) w w' := by
  have HR : Hid (RdB w R l) := h
  have hRw : R < w.heap.size := by obtain ⟨_, _, _, ho, _⟩ := h; exact ho.lt
  clear h
  have hb0 : Below w.heap.size w (w.alloc (.cells #[.int .i64 0, .string noS, .slice none 0 0, .slice none 0 0, .string noS, .string noS] 46)) := (by repeat (first | with_reducible exact Below.refl _ _ | with_reducible assumption | with_reducible refine ch_alloc ?_ _ | with_reducible refine Below.drew ?_ | with_reducible refine below_draws _ ?_ | (with_reducible refine Below.setCell ?_ ?_ _; rotate_left; focus (first | with_reducible exact Nat.le_refl _ | (simp; done) | (simp; omega) | (simp at *; omega))) | with_reducible refine ch_trans ?_ (by with_reducible assumption)))
  have HO0 : Own (w.alloc (.cells #[.int .i64 0, .string noS, .slice none 0 0, .slice none 0 0, .string noS, .string noS] 46)) w.heap.size 46 #[.int .i64 0, .string noS, .slice none 0 0, .slice none 0 0, .string noS, .string noS] := Own.new _ _ _
  have HT0 : Turns (· = R) w (w.alloc (.cells #[.int .i64 0, .string noS, .slice none 0 0, .slice none 0 0, .string noS, .string noS] 46)) := (Turns.refl (· = R) w).below hb0
  go_enter Tryz.func84, Tryz.ntmps84
  go_wp2_with fail
  refine (HN.out _ (HR.out.on hb0)).mono ?_
  rintro e w1 ⟨rfl, hd1, ht1⟩
  have HO1 := HO0.turned ht1 (by show ¬ (w.heap.size = R); omega)
  have HQ1 := HT0.trans ht1
  have HD1 : Hid (RdB w1 R D1) := hd1
  have hs1 : w.heap.size < w1.heap.size := HO1.lt
  clear hb0 HO0 HT0 hd1 ht1 HN HR
  go_wp2_with fail
  refine (HK.out _ HD1.out).mono ?_
  rintro e w2 ⟨v2, rfl, hg2, hd2, ht2⟩
  obtain ⟨a2, n2, c2, rfl, hg2⟩ := hg2.lit2
  have HG2 : Hid (Got w2 w1.heap.size 131 7 (.slice a2 n2 c2) (cs.map Cl.cells)) := hg2
  have HO2 := HO1.turned ht2 (by show ¬ (w.heap.size = R); omega)
  have HQ2 := HQ1.trans ht2
  have HD2 : Hid (RdB w2 R D2) := hd2
  have hs2 : w1.heap.size ≤ w2.heap.size := ht2.size
  have HL2 : Hid (∀ g, (Value.slice a2 n2 c2).ownBlock = some g → g < w2.heap.size) := hg2.lt
  clear HO1 HQ1 hd2 ht2 hg2 HK HD1
  go_wp2_with fail
  refine (HW.out _ HD2.out).mono ?_
  rintro e w3 ⟨v3, rfl, hg3, hd3, ht3⟩
  obtain ⟨a3, n3, c3, rfl, hg3⟩ := hg3.lit2
  have HG3 : Hid (Got w3 w2.heap.size 9 1 (.slice a3 n3 c3) (ks.map strX)) := hg3
  have HG23 : Hid (Got w3 w1.heap.size 131 7 (.slice a2 n2 c2) (cs.map Cl.cells)) := HG2.out.turns ht3 fun c h => by have h : c = R := h; omega
  have HO3 := HO2.turned ht3 (by show ¬ (w.heap.size = R); omega)
  have HQ3 := HQ2.trans ht3
  have HD3 : Hid (RdB w3 R D3) := hd3
  have hs3 : w2.heap.size ≤ w3.heap.size := ht3.size
  clear HO2 HQ2 hd3 ht3 hg3 HW HD2 HG2
  go_wp2_with fail
  refine (HT1.out _ HD3.out).mono ?_
  rintro e w4 ⟨rfl, hd4, ht4⟩
  have HG34 : Hid (Got w4 w2.heap.size 9 1 (.slice a3 n3 c3) (ks.map strX)) := HG3.out.turns ht4 fun c h => by have h : c = R := h; omega
  have HG24 : Hid (Got w4 w1.heap.size 131 7 (.slice a2 n2 c2) (cs.map Cl.cells)) := HG23.out.turns ht4 fun c h => by have h : c = R := h; omega
  have HO4 := HO3.turned ht4 (by show ¬ (w.heap.size = R); omega)
  have HQ4 := HQ3.trans ht4
  have HD4 : Hid (RdB w4 R D4) := hd4
  have hs4 : w3.heap.size ≤ w4.heap.size := ht4.size
  clear HO3 HQ3 hd4 ht4 HT1 HD3 HG3 HG23
  go_wp2_with fail
  refine (HT2.out _ HD4.out).mono ?_
  rintro e w5 ⟨rfl, hd5, ht5⟩
  have HG35 : Got w5 w2.heap.size 9 1 (.slice a3 n3 c3) (ks.map strX) := HG34.out.turns ht5 fun c h => by have h : c = R := h; omega
  have HG25 : Got w5 w1.heap.size 131 7 (.slice a2 n2 c2) (cs.map Cl.cells) := HG24.out.turns ht5 fun c h => by have h : c = R := h; omega
  have HO5 := HO4.turned ht5 (by show ¬ (w.heap.size = R); omega)
  have HQ5 := HQ4.trans ht5
  have hs5 : w4.heap.size ≤ w5.heap.size := ht5.size
  have HM : Hid (RdB (stores w5 w.heap.size 0 [.int .i64 kd, .string tb, .slice a2 n2 c2, .slice a3 n3 c3, .string nm, .string to]) R D5 ∧ Turns (· = R) w (stores w5 w.heap.size 0 [.int .i64 kd, .string tb, .slice a2 n2 c2, .slice a3 n3 c3, .string nm, .string to])) := RdB.many hRw _ _ _ hd5 (Nat.le_refl _) HQ5
  have HE : Hid (Got (stores w5 w.heap.size 0 [.int .i64 kd, .string tb, .slice a2 n2 c2, .slice a3 n3 c3, .string nm, .string to]) w.heap.size 131 7 (.slice a2 n2 c2) (cs.map Cl.cells) ∧ Got (stores w5 w.heap.size 0 [.int .i64 kd, .string tb, .slice a2 n2 c2, .slice a3 n3 c3, .string nm, .string to]) w2.heap.size 9 1 (.slice a3 n3 c3) (ks.map strX) ∧ w2.heap.size ≤ (stores w5 w.heap.size 0 [.int .i64 kd, .string tb, .slice a2 n2 c2, .slice a3 n3 c3, .string nm, .string to]).heap.size) := ⟨(Got.many hs1 _ _ _ HG25).mono (by omega), Got.many (by omega) _ _ _ HG35, by rw [stores_sizeR]; omega⟩
  have HQ : Own (stores w5 w.heap.size 0 [.int .i64 kd, .string tb, .slice a2 n2 c2, .slice a3 n3 c3, .string nm, .string to]) w.heap.size 46 #[.int .i64 kd, .string tb, .slice a2 n2 c2, .slice a3 n3 c3, .string nm, .string to] := HO5.fill (old := [_, _, _, _, _, _]) [.int .i64 kd, .string tb, .slice a2 n2 c2, .slice a3 n3 c3, .string nm, .string to] rfl
  obtain ⟨d0, d1, d2, d3, d4, d5⟩ := HO5.loc.six
  have k0 := HO5.frozen 0
  have k1 := HO5.frozen 1
  have k2 := HO5.frozen 2
  have k3 := HO5.frozen 3
  have k4 := HO5.frozen 4
  have k5 := HO5.frozen 5
  clear HO4 HQ4 hd5 ht5 HT2 HD4 HO5 HQ5 HG34 HG24 HG25 HG35
  simp only [stores, Nat.reduceAdd] at HM HQ HE
  go_wp2
  generalize ((((((w5.setCell ⟨w.heap.size, 0, none⟩ (.int .i64 kd)).setCell ⟨w.heap.size, 1, none⟩ (.string tb)).setCell ⟨w.heap.size, 2, none⟩ (.slice a2 n2 c2)).setCell ⟨w.heap.size, 3, none⟩ (.slice a3 n3 c3)).setCell ⟨w.heap.size, 4, none⟩ (.string nm)).setCell ⟨w.heap.size, 5, none⟩ (.string to)) = W at HM HQ HE ⊢
  obtain ⟨e0, e1, e2, e3, e4, e5⟩ := HQ.loc.six
  exact bodyPost_ret (v := .agg #[.int .i64 kd, .string tb, .slice a2 n2 c2, .slice a3 n3 c3, .string nm, .string to]) (by simp [results, Tryz.results84, go_sem, e0, e1, e2, e3, e4, e5]) rfl ⟨_, _, _, _, _, _, w2.heap.size, rfl, HE.out.1, HE.out.2.1, HL2.out, by omega, HE.out.2.2, HM.out.1, HM.out.2⟩

set_option maxRecDepth 100000 in
/-- impl.readVals, and what is left -/
theorem readValsR_any (R : Nat) (l : List UInt8) (w : World) (h : RdB w R l) :
    Calls Tryz.prog 83 #[.pointer (some ⟨R, 0, none⟩)] w fun e w' => ∃ v, e = .returned v ∧ Got w' w.heap.size 128 3 v ((rdR l).1.map Vc.cells) ∧ RdB w' R (rdR l).2 ∧ Turns (· = R) w w' := by
  have HM : Hid (Calls Tryz.prog 112 #[.pointer (some ⟨R, 0, none⟩), .func (.func 113) #[] #[]] w fun e w' => ∃ v, e = .returned v ∧ Got w' w.heap.size 128 3 v ((rdR l).1.map Vc.cells) ∧ RdB w' R (rdR l).2 ∧ Turns (· = R) w w') := readValsX_any R l w h
  clear h
  generalize rdR l = X at HM ⊢
  go_enter Tryz.func83, Tryz.ntmps83
  go_wp2_with fail
  refine HM.out.mono ?_
  rintro e w1 ⟨v, rfl, hg, hd, ht⟩
  have HG : Hid (Got w1 w.heap.size 128 3 v (X.1.map Vc.cells)) := hg
  have HD : Hid (RdB w1 R X.2) := hd
  have HT : Hid (Turns (· = R) w w1) := ht
  clear hg hd ht
  go_wp2
  go_ret
  exact ⟨_, rfl, HG.out, HD.out, HT.out⟩

/-- A statement read: four rows of the call's own, one behind the other. -/
def StmtOut (R : Nat) (w : World) (kd : Int) (tb : ByteArray) (key row : List Vc) (dd : Dc) (e : Ending) (w' : World) : Prop := ∃ k r c o b0 b1 b2 b3 b4, e = .returned (.agg #[.int .i64 kd, .string tb, k, r, .int .i64 dd.kind, .string dd.table, c, o, .string dd.name, .string dd.to]) ∧ Got w' b0 128 3 k (key.map Vc.cells) ∧ Got w' b1 128 3 r (row.map Vc.cells) ∧ Got w' b2 131 7 c (dd.cols.map Cl.cells) ∧ Got w' b3 9 1 o (dd.keys.map strX) ∧ (∀ g, k.ownBlock = some g → g < b1) ∧ (∀ g, r.ownBlock = some g → g < b2) ∧ (∀ g, c.ownBlock = some g → g < b3) ∧ (∀ g, o.ownBlock = some g → g < b4) ∧ w.heap.size ≤ b0 ∧ b0 ≤ b1 ∧ b1 ≤ b2 ∧ b2 ≤ b3 ∧ b3 ≤ b4 ∧ b4 ≤ w'.heap.size ∧ Turns (· = R) w w'
set_option maxRecDepth 100000 in
set_option maxHeartbeats 4000000 in
theorem stmtR_aux (R : Nat) (w : World) (l D0 D1 D2 D3 D4 : List UInt8) (kd : Int) (tb : ByteArray) (key row : List Vc) (dd : Dc) (h : RdB w R l)
    (HA : Hid (∀ u : World, RdB u R l → Calls Tryz.prog 80 #[.pointer (some ⟨R, 0, none⟩), .int .i64 1] u fun e w' => ∃ v, e = .returned v ∧ RdB w' R D0 ∧ Turns (· = R) u w'))
    (HN : Hid (∀ u : World, RdB u R D0 → Calls Tryz.prog 81 #[.pointer (some ⟨R, 0, none⟩), .int .i64 1] u fun e w' => e = .returned (.int .i64 kd) ∧ RdB w' R D1 ∧ Turns (· = R) u w'))
    (HX : Hid (∀ u : World, RdB u R D1 → Calls Tryz.prog 82 #[.pointer (some ⟨R, 0, none⟩)] u fun e w' => e = .returned (.string tb) ∧ RdB w' R D2 ∧ Turns (· = R) u w'))
    (HV1 : Hid (∀ u : World, RdB u R D2 → Calls Tryz.prog 83 #[.pointer (some ⟨R, 0, none⟩)] u fun e w' => ∃ v, e = .returned v ∧ Got w' u.heap.size 128 3 v (key.map Vc.cells) ∧ RdB w' R D3 ∧ Turns (· = R) u w'))
    (HV2 : Hid (∀ u : World, RdB u R D3 → Calls Tryz.prog 83 #[.pointer (some ⟨R, 0, none⟩)] u fun e w' => ∃ v, e = .returned v ∧ Got w' u.heap.size 128 3 v (row.map Vc.cells) ∧ RdB w' R D4 ∧ Turns (· = R) u w'))
    (HD : Hid ((kd = 5 ∧ dd.table = tb ∧ ∀ u : World, RdB u R D4 → Calls Tryz.prog 84 #[.pointer (some ⟨R, 0, none⟩), .string tb] u fun e w' => ∃ a n c a' n' c' m, e = .returned (.agg #[.int .i64 dd.kind, .string tb, .slice a n c, .slice a' n' c', .string dd.name, .string dd.to]) ∧ Got w' u.heap.size 131 7 (.slice a n c) (dd.cols.map Cl.cells) ∧ Got w' m 9 1 (.slice a' n' c') (dd.keys.map strX) ∧ (∀ g, (Value.slice a n c).ownBlock = some g → g < m) ∧ u.heap.size ≤ m ∧ m ≤ w'.heap.size ∧ Turns (· = R) u w') ∨ ((kd == 5) = false ∧ dd = Dc.zero))) :
    Calls Tryz.prog 44 #[.pointer (some ⟨R, 0, none⟩)] w fun e w' => StmtOut R w kd tb key row dd e w' := by
  have HR : Hid (RdB w R l) := h
  have hRw : R < w.heap.size := by obtain ⟨_, _, _, ho, _⟩ := h; exact ho.lt
  clear h
  have hb0 : Below w.heap.size w (w.alloc (.cells #[.int .i64 0, .string noS, .slice none 0 0, .slice none 0 0, .int .i64 0, .string noS, .slice none 0 0, .slice none 0 0, .string noS, .string noS] 48)) := (by repeat (first | with_reducible exact Below.refl _ _ | with_reducible assumption | with_reducible refine ch_alloc ?_ _ | with_reducible refine Below.drew ?_ | with_reducible refine below_draws _ ?_ | (with_reducible refine Below.setCell ?_ ?_ _; rotate_left; focus (first | with_reducible exact Nat.le_refl _ | (simp; done) | (simp; omega) | (simp at *; omega))) | with_reducible refine ch_trans ?_ (by with_reducible assumption)))
  have HO0 : Own (w.alloc (.cells #[.int .i64 0, .string noS, .slice none 0 0, .slice none 0 0, .int .i64 0, .string noS, .slice none 0 0, .slice none 0 0, .string noS, .string noS] 48)) w.heap.size 48 #[.int .i64 0, .string noS, .slice none 0 0, .slice none 0 0, .int .i64 0, .string noS, .slice none 0 0, .slice none 0 0, .string noS, .string noS] := Own.new _ _ _
  have HT0 : Turns (· = R) w (w.alloc (.cells #[.int .i64 0, .string noS, .slice none 0 0, .slice none 0 0, .int .i64 0, .string noS, .slice none 0 0, .slice none 0 0, .string noS, .string noS] 48)) := (Turns.refl (· = R) w).below hb0
  go_enter Tryz.func44, Tryz.ntmps44
  go_wp2_with fail
  refine (HA.out _ (HR.out.on hb0)).mono ?_
  rintro e w1 ⟨v1, rfl, hd1, ht1⟩
  have HO1 := HO0.turned ht1 (by show ¬ (w.heap.size = R); omega)
  have HT1 := HT0.trans ht1
  have HD1 : Hid (RdB w1 R D0) := hd1
  clear hb0 HO0 HT0 hd1 ht1 HA HR
  go_wp2_with fail
  refine (HN.out _ HD1.out).mono ?_
  rintro e w2 ⟨rfl, hd2, ht2⟩
  have HO2 := HO1.turned ht2 (by show ¬ (w.heap.size = R); omega)
  have HT2 := HT1.trans ht2
  have HD2 : Hid (RdB w2 R D1) := hd2
  clear HO1 HT1 hd2 ht2 HN HD1
  go_wp2_with fail
  refine (HX.out _ HD2.out).mono ?_
  rintro e w3 ⟨rfl, hd3, ht3⟩
  have HO3 := HO2.turned ht3 (by show ¬ (w.heap.size = R); omega)
  have HT3 := HT2.trans ht3
  have HD3 : Hid (RdB w3 R D2) := hd3
  have hs3 : w.heap.size < w3.heap.size := HO3.lt
  clear HO2 HT2 hd3 ht3 HX HD2
  go_wp2_with fail
  refine (HV1.out _ HD3.out).mono ?_
  rintro e w4 ⟨v4, rfl, hg4, hd4, ht4⟩
  obtain ⟨a4, n4, c4, rfl, hg4⟩ := hg4.lit2
  have HG4 : Hid (Got w4 w3.heap.size 128 3 (.slice a4 n4 c4) (key.map Vc.cells)) := hg4
  have HL4 : Hid (∀ g, (Value.slice a4 n4 c4).ownBlock = some g → g < w4.heap.size) := hg4.lt
  have HO4 := HO3.turned ht4 (by show ¬ (w.heap.size = R); omega)
  have HT4 := HT3.trans ht4
  have HD4 : Hid (RdB w4 R D3) := hd4
  have hs4 : w3.heap.size ≤ w4.heap.size := ht4.size
  clear HO3 HT3 hd4 ht4 hg4 HV1 HD3
  go_wp2_with fail
  refine (HV2.out _ HD4.out).mono ?_
  rintro e w5 ⟨v5, rfl, hg5, hd5, ht5⟩
  obtain ⟨a5, n5, c5, rfl, hg5⟩ := hg5.lit2
  have HG5 : Hid (Got w5 w4.heap.size 128 3 (.slice a5 n5 c5) (row.map Vc.cells)) := hg5
  have HL5 : Hid (∀ g, (Value.slice a5 n5 c5).ownBlock = some g → g < w5.heap.size) := hg5.lt
  have HG45 : Hid (Got w5 w3.heap.size 128 3 (.slice a4 n4 c4) (key.map Vc.cells)) := HG4.out.turns ht5 fun c h => by have h : c = R := h; omega
  have HO5 := HO4.turned ht5 (by show ¬ (w.heap.size = R); omega)
  have HT5 := HT4.trans ht5
  have HD5 : Hid (RdB w5 R D4) := hd5
  have hs5 : w4.heap.size ≤ w5.heap.size := ht5.size
  clear HO4 HT4 hd5 ht5 hg5 HV2 HD4 HG4
  have hb6 : Below w5.heap.size w5 (w5.alloc (.cells #[.int .i64 kd, .string tb, .slice a4 n4 c4, .slice a5 n5 c5, .int .i64 0, .string noS, .slice none 0 0, .slice none 0 0, .string noS, .string noS] 48)) := (by repeat (first | with_reducible exact Below.refl _ _ | with_reducible assumption | with_reducible refine ch_alloc ?_ _ | with_reducible refine Below.drew ?_ | with_reducible refine below_draws _ ?_ | (with_reducible refine Below.setCell ?_ ?_ _; rotate_left; focus (first | with_reducible exact Nat.le_refl _ | (simp; done) | (simp; omega) | (simp at *; omega))) | with_reducible refine ch_trans ?_ (by with_reducible assumption)))
  have HO6 : Own (w5.alloc (.cells #[.int .i64 kd, .string tb, .slice a4 n4 c4, .slice a5 n5 c5, .int .i64 0, .string noS, .slice none 0 0, .slice none 0 0, .string noS, .string noS] 48)) w.heap.size 48 #[.int .i64 0, .string noS, .slice none 0 0, .slice none 0 0, .int .i64 0, .string noS, .slice none 0 0, .slice none 0 0, .string noS, .string noS] := HO5.on hb6
  have HP6 : Own (w5.alloc (.cells #[.int .i64 kd, .string tb, .slice a4 n4 c4, .slice a5 n5 c5, .int .i64 0, .string noS, .slice none 0 0, .slice none 0 0, .string noS, .string noS] 48)) w5.heap.size 48 #[.int .i64 kd, .string tb, .slice a4 n4 c4, .slice a5 n5 c5, .int .i64 0, .string noS, .slice none 0 0, .slice none 0 0, .string noS, .string noS] := Own.new _ _ _
  have HT6 : Turns (· = R) w (w5.alloc (.cells #[.int .i64 kd, .string tb, .slice a4 n4 c4, .slice a5 n5 c5, .int .i64 0, .string noS, .slice none 0 0, .slice none 0 0, .string noS, .string noS] 48)) := HT5.below hb6
  have HG46 : Hid (Got (w5.alloc (.cells #[.int .i64 kd, .string tb, .slice a4 n4 c4, .slice a5 n5 c5, .int .i64 0, .string noS, .slice none 0 0, .slice none 0 0, .string noS, .string noS] 48)) w3.heap.size 128 3 (.slice a4 n4 c4) (key.map Vc.cells)) := HG45.out.on hb6
  have HG56 : Hid (Got (w5.alloc (.cells #[.int .i64 kd, .string tb, .slice a4 n4 c4, .slice a5 n5 c5, .int .i64 0, .string noS, .slice none 0 0, .slice none 0 0, .string noS, .string noS] 48)) w4.heap.size 128 3 (.slice a5 n5 c5) (row.map Vc.cells)) := HG5.out.on hb6
  have HD6 : Hid (RdB (w5.alloc (.cells #[.int .i64 kd, .string tb, .slice a4 n4 c4, .slice a5 n5 c5, .int .i64 0, .string noS, .slice none 0 0, .slice none 0 0, .string noS, .string noS] 48)) R D4) := HD5.out.on hb6
  have hs6 : (w5.alloc (.cells #[.int .i64 kd, .string tb, .slice a4 n4 c4, .slice a5 n5 c5, .int .i64 0, .string noS, .slice none 0 0, .slice none 0 0, .string noS, .string noS] 48)).heap.size = w5.heap.size + 1 := by simp
  clear HO5 HT5 HD5 HG45 HG5 hb6
  obtain ⟨p0, p1, p2, p3, p4, p5, p6, p7, p8, p9⟩ := HP6.loc.ten
  have hRP : R < w5.heap.size := by omega
  rcases HD.out with ⟨hk5, htb, hdd⟩ | ⟨hk5, hdz⟩
  rotate_left
  · subst hdz
    clear HD
    have HM : Hid (Turns (· = R) w (stores (w5.alloc (.cells #[.int .i64 kd, .string tb, .slice a4 n4 c4, .slice a5 n5 c5, .int .i64 0, .string noS, .slice none 0 0, .slice none 0 0, .string noS, .string noS] 48)) w.heap.size 0 [.int .i64 kd, .string tb, .slice a4 n4 c4, .slice a5 n5 c5, .int .i64 0, .string noS, .slice none 0 0, .slice none 0 0, .string noS, .string noS])) := (RdB.many hRw [.int .i64 kd, .string tb, .slice a4 n4 c4, .slice a5 n5 c5, .int .i64 0, .string noS, .slice none 0 0, .slice none 0 0, .string noS, .string noS] _ 0 HD6.out (Nat.le_refl _) HT6).2
    have HQ : Own (stores (w5.alloc (.cells #[.int .i64 kd, .string tb, .slice a4 n4 c4, .slice a5 n5 c5, .int .i64 0, .string noS, .slice none 0 0, .slice none 0 0, .string noS, .string noS] 48)) w.heap.size 0 [.int .i64 kd, .string tb, .slice a4 n4 c4, .slice a5 n5 c5, .int .i64 0, .string noS, .slice none 0 0, .slice none 0 0, .string noS, .string noS]) w.heap.size 48 #[.int .i64 kd, .string tb, .slice a4 n4 c4, .slice a5 n5 c5, .int .i64 0, .string noS, .slice none 0 0, .slice none 0 0, .string noS, .string noS] := HO6.fill (old := [_, _, _, _, _, _, _, _, _, _]) [.int .i64 kd, .string tb, .slice a4 n4 c4, .slice a5 n5 c5, .int .i64 0, .string noS, .slice none 0 0, .slice none 0 0, .string noS, .string noS] rfl
    have HE : Hid (Got (stores (w5.alloc (.cells #[.int .i64 kd, .string tb, .slice a4 n4 c4, .slice a5 n5 c5, .int .i64 0, .string noS, .slice none 0 0, .slice none 0 0, .string noS, .string noS] 48)) w.heap.size 0 [.int .i64 kd, .string tb, .slice a4 n4 c4, .slice a5 n5 c5, .int .i64 0, .string noS, .slice none 0 0, .slice none 0 0, .string noS, .string noS]) w3.heap.size 128 3 (.slice a4 n4 c4) (key.map Vc.cells) ∧ Got (stores (w5.alloc (.cells #[.int .i64 kd, .string tb, .slice a4 n4 c4, .slice a5 n5 c5, .int .i64 0, .string noS, .slice none 0 0, .slice none 0 0, .string noS, .string noS] 48)) w.heap.size 0 [.int .i64 kd, .string tb, .slice a4 n4 c4, .slice a5 n5 c5, .int .i64 0, .string noS, .slice none 0 0, .slice none 0 0, .string noS, .string noS]) w4.heap.size 128 3 (.slice a5 n5 c5) (row.map Vc.cells) ∧ w5.heap.size ≤ (stores (w5.alloc (.cells #[.int .i64 kd, .string tb, .slice a4 n4 c4, .slice a5 n5 c5, .int .i64 0, .string noS, .slice none 0 0, .slice none 0 0, .string noS, .string noS] 48)) w.heap.size 0 [.int .i64 kd, .string tb, .slice a4 n4 c4, .slice a5 n5 c5, .int .i64 0, .string noS, .slice none 0 0, .slice none 0 0, .string noS, .string noS]).heap.size) := ⟨Got.many hs3 _ _ _ HG46.out, Got.many (by omega) _ _ _ HG56.out, by rw [stores_sizeR, hs6]; omega⟩
    obtain ⟨d0, d1, d2, d3, d4, d5, d6, d7, d8, d9⟩ := HO6.loc.ten
    have k0 := HO6.frozen 0
    have k1 := HO6.frozen 1
    have k2 := HO6.frozen 2
    have k3 := HO6.frozen 3
    have k4 := HO6.frozen 4
    have k5 := HO6.frozen 5
    have k6 := HO6.frozen 6
    have k7 := HO6.frozen 7
    have k8 := HO6.frozen 8
    have k9 := HO6.frozen 9
    clear HG46 HG56 HD6 HO6 HP6 HT6
    simp only [stores, Nat.reduceAdd] at HM HQ HE
    go_wp2
    generalize (((((((((((w5.alloc (.cells #[.int .i64 kd, .string tb, .slice a4 n4 c4, .slice a5 n5 c5, .int .i64 0, .string noS, .slice none 0 0, .slice none 0 0, .string noS, .string noS] 48)).setCell ⟨w.heap.size, 0, none⟩ (.int .i64 kd)).setCell ⟨w.heap.size, 1, none⟩ (.string tb)).setCell ⟨w.heap.size, 2, none⟩ (.slice a4 n4 c4)).setCell ⟨w.heap.size, 3, none⟩ (.slice a5 n5 c5)).setCell ⟨w.heap.size, 4, none⟩ (.int .i64 0)).setCell ⟨w.heap.size, 5, none⟩ (.string noS)).setCell ⟨w.heap.size, 6, none⟩ (.slice none 0 0)).setCell ⟨w.heap.size, 7, none⟩ (.slice none 0 0)).setCell ⟨w.heap.size, 8, none⟩ (.string noS)).setCell ⟨w.heap.size, 9, none⟩ (.string noS)) = W at HM HQ HE ⊢
    obtain ⟨e0, e1, e2, e3, e4, e5, e6, e7, e8, e9⟩ := HQ.loc.ten
    exact bodyPost_ret (v := .agg #[.int .i64 kd, .string tb, .slice a4 n4 c4, .slice a5 n5 c5, .int .i64 0, .string noS, .slice none 0 0, .slice none 0 0, .string noS, .string noS]) (by simp [results, Tryz.results44, go_sem, e0, e1, e2, e3, e4, e5, e6, e7, e8, e9]) rfl (by unfold StmtOut; exact ⟨_, _, _, _, w3.heap.size, w4.heap.size, w5.heap.size, w5.heap.size, w5.heap.size, rfl, HE.out.1, HE.out.2.1, Got.nil _ _ _ _, Got.nil _ _ _ _, HL4.out, HL5.out, fun g h => (by cases h), fun g h => (by cases h), by omega, hs4, hs5, Nat.le_refl _, Nat.le_refl _, HE.out.2.2, HM.out⟩)
  · subst htb
    have hk : (kd == 5) = true := by simp [hk5]
    clear hk5 HD
    go_wp2_with fail
    refine (hdd _ HD6.out).mono ?_
    rintro e w7 ⟨a6, n6, c6, a7, n7, c7, m, rfl, hg6, hg7, hl6, hm1, hm2, ht7⟩
    rw [hs6] at hg6 hm1
    have HP7 := HP6.turned ht7 (by show ¬ (w5.heap.size = R); omega)
    have HO7 := HO6.turned ht7 (by show ¬ (w.heap.size = R); omega)
    have HT7 := HT6.trans ht7
    have HG47 : Got w7 w3.heap.size 128 3 (.slice a4 n4 c4) (key.map Vc.cells) := HG46.out.turns ht7 fun c h => by have h : c = R := h; omega
    have HG57 : Got w7 w4.heap.size 128 3 (.slice a5 n5 c5) (row.map Vc.cells) := HG56.out.turns ht7 fun c h => by have h : c = R := h; omega
    have HL6 : Hid (∀ g, (Value.slice a6 n6 c6).ownBlock = some g → g < m) := hl6
    have HL7 : Hid (∀ g, (Value.slice a7 n7 c7).ownBlock = some g → g < w7.heap.size) := hg7.lt
    have HP8 : Own (stores w7 w5.heap.size 4 [.int .i64 dd.kind, .string dd.table, .slice a6 n6 c6, .slice a7 n7 c7, .string dd.name, .string dd.to]) w5.heap.size 48 #[.int .i64 kd, .string dd.table, .slice a4 n4 c4, .slice a5 n5 c5, .int .i64 dd.kind, .string dd.table, .slice a6 n6 c6, .slice a7 n7 c7, .string dd.name, .string dd.to] := own_stores [.int .i64 dd.kind, .string dd.table, .slice a6 n6 c6, .slice a7 n7 c7, .string dd.name, .string dd.to] [.int .i64 kd, .string dd.table, .slice a4 n4 c4, .slice a5 n5 c5] [.int .i64 0, .string noS, .slice none 0 0, .slice none 0 0, .string noS, .string noS] w7 rfl HP7
    have HO8 : Own (stores w7 w5.heap.size 4 [.int .i64 dd.kind, .string dd.table, .slice a6 n6 c6, .slice a7 n7 c7, .string dd.name, .string dd.to]) w.heap.size 48 #[.int .i64 0, .string noS, .slice none 0 0, .slice none 0 0, .int .i64 0, .string noS, .slice none 0 0, .slice none 0 0, .string noS, .string noS] := Own.past (by omega) [.int .i64 dd.kind, .string dd.table, .slice a6 n6 c6, .slice a7 n7 c7, .string dd.name, .string dd.to] w7 4 HO7
    have HQ : Own (stores (stores w7 w5.heap.size 4 [.int .i64 dd.kind, .string dd.table, .slice a6 n6 c6, .slice a7 n7 c7, .string dd.name, .string dd.to]) w.heap.size 0 [.int .i64 kd, .string dd.table, .slice a4 n4 c4, .slice a5 n5 c5, .int .i64 dd.kind, .string dd.table, .slice a6 n6 c6, .slice a7 n7 c7, .string dd.name, .string dd.to]) w.heap.size 48 #[.int .i64 kd, .string dd.table, .slice a4 n4 c4, .slice a5 n5 c5, .int .i64 dd.kind, .string dd.table, .slice a6 n6 c6, .slice a7 n7 c7, .string dd.name, .string dd.to] := HO8.fill (old := [_, _, _, _, _, _, _, _, _, _]) [.int .i64 kd, .string dd.table, .slice a4 n4 c4, .slice a5 n5 c5, .int .i64 dd.kind, .string dd.table, .slice a6 n6 c6, .slice a7 n7 c7, .string dd.name, .string dd.to] rfl
    have hsz : (stores (stores w7 w5.heap.size 4 [.int .i64 dd.kind, .string dd.table, .slice a6 n6 c6, .slice a7 n7 c7, .string dd.name, .string dd.to]) w.heap.size 0 [.int .i64 kd, .string dd.table, .slice a4 n4 c4, .slice a5 n5 c5, .int .i64 dd.kind, .string dd.table, .slice a6 n6 c6, .slice a7 n7 c7, .string dd.name, .string dd.to]).heap.size = w7.heap.size := by rw [stores_sizeR, stores_sizeR]
    have HM : Hid (Turns (· = R) w (stores (stores w7 w5.heap.size 4 [.int .i64 dd.kind, .string dd.table, .slice a6 n6 c6, .slice a7 n7 c7, .string dd.name, .string dd.to]) w.heap.size 0 [.int .i64 kd, .string dd.table, .slice a4 n4 c4, .slice a5 n5 c5, .int .i64 dd.kind, .string dd.table, .slice a6 n6 c6, .slice a7 n7 c7, .string dd.name, .string dd.to])) := turns_new (Nat.le_refl _) _ _ _ (turns_new (b := w5.heap.size) (by omega) _ _ _ HT7)
    have HE : Hid (Got (stores (stores w7 w5.heap.size 4 [.int .i64 dd.kind, .string dd.table, .slice a6 n6 c6, .slice a7 n7 c7, .string dd.name, .string dd.to]) w.heap.size 0 [.int .i64 kd, .string dd.table, .slice a4 n4 c4, .slice a5 n5 c5, .int .i64 dd.kind, .string dd.table, .slice a6 n6 c6, .slice a7 n7 c7, .string dd.name, .string dd.to]) w3.heap.size 128 3 (.slice a4 n4 c4) (key.map Vc.cells) ∧ Got (stores (stores w7 w5.heap.size 4 [.int .i64 dd.kind, .string dd.table, .slice a6 n6 c6, .slice a7 n7 c7, .string dd.name, .string dd.to]) w.heap.size 0 [.int .i64 kd, .string dd.table, .slice a4 n4 c4, .slice a5 n5 c5, .int .i64 dd.kind, .string dd.table, .slice a6 n6 c6, .slice a7 n7 c7, .string dd.name, .string dd.to]) w4.heap.size 128 3 (.slice a5 n5 c5) (row.map Vc.cells) ∧ Got (stores (stores w7 w5.heap.size 4 [.int .i64 dd.kind, .string dd.table, .slice a6 n6 c6, .slice a7 n7 c7, .string dd.name, .string dd.to]) w.heap.size 0 [.int .i64 kd, .string dd.table, .slice a4 n4 c4, .slice a5 n5 c5, .int .i64 dd.kind, .string dd.table, .slice a6 n6 c6, .slice a7 n7 c7, .string dd.name, .string dd.to]) w5.heap.size 131 7 (.slice a6 n6 c6) (dd.cols.map Cl.cells) ∧ Got (stores (stores w7 w5.heap.size 4 [.int .i64 dd.kind, .string dd.table, .slice a6 n6 c6, .slice a7 n7 c7, .string dd.name, .string dd.to]) w.heap.size 0 [.int .i64 kd, .string dd.table, .slice a4 n4 c4, .slice a5 n5 c5, .int .i64 dd.kind, .string dd.table, .slice a6 n6 c6, .slice a7 n7 c7, .string dd.name, .string dd.to]) m 9 1 (.slice a7 n7 c7) (dd.keys.map strX) ∧ w7.heap.size ≤ (stores (stores w7 w5.heap.size 4 [.int .i64 dd.kind, .string dd.table, .slice a6 n6 c6, .slice a7 n7 c7, .string dd.name, .string dd.to]) w.heap.size 0 [.int .i64 kd, .string dd.table, .slice a4 n4 c4, .slice a5 n5 c5, .int .i64 dd.kind, .string dd.table, .slice a6 n6 c6, .slice a7 n7 c7, .string dd.name, .string dd.to]).heap.size) :=
      ⟨Got.many hs3 _ _ _ (gotAbove HL4.out hs5 _ _ _ HG47), Got.many (by omega) _ _ _ (gotAbove HL5.out (Nat.le_refl _) _ _ _ HG57), (Got.many (by omega) _ _ _ (Got.many (by omega) _ _ _ hg6)).mono (by omega), Got.many (by omega) _ _ _ (Got.many (by omega) _ _ _ hg7), by omega⟩
    obtain ⟨q0, q1, q2, q3, q4, q5, q6, q7, q8, q9⟩ := HP7.loc.ten
    have j4 := HP7.frozen 4
    have j5 := HP7.frozen 5
    have j6 := HP7.frozen 6
    have j7 := HP7.frozen 7
    have j8 := HP7.frozen 8
    have j9 := HP7.frozen 9
    simp only [stores, Nat.reduceAdd] at HP8 HO8 HM HQ HE
    obtain ⟨r0, r1, r2, r3, r4, r5, r6, r7, r8, r9⟩ := HP8.loc.ten
    obtain ⟨d0, d1, d2, d3, d4, d5, d6, d7, d8, d9⟩ := HO8.loc.ten
    have k0 := HO8.frozen 0
    have k1 := HO8.frozen 1
    have k2 := HO8.frozen 2
    have k3 := HO8.frozen 3
    have k4 := HO8.frozen 4
    have k5 := HO8.frozen 5
    have k6 := HO8.frozen 6
    have k7 := HO8.frozen 7
    have k8 := HO8.frozen 8
    have k9 := HO8.frozen 9
    have hm3 : w5.heap.size ≤ m := by omega
    clear hsz HG46 HG56 HD6 HO6 HP6 HT6 hg6 hg7 hl6 ht7 HG47 HG57 HT7 HO7 HP7 hdd HO8 HP8
    go_wp2
    generalize ((((((((((((((((w7.setCell ⟨w5.heap.size, 4, none⟩ (.int .i64 dd.kind)).setCell ⟨w5.heap.size, 5, none⟩ (.string dd.table)).setCell ⟨w5.heap.size, 6, none⟩ (.slice a6 n6 c6)).setCell ⟨w5.heap.size, 7, none⟩ (.slice a7 n7 c7)).setCell ⟨w5.heap.size, 8, none⟩ (.string dd.name)).setCell ⟨w5.heap.size, 9, none⟩ (.string dd.to)).setCell ⟨w.heap.size, 0, none⟩ (.int .i64 kd)).setCell ⟨w.heap.size, 1, none⟩ (.string dd.table)).setCell ⟨w.heap.size, 2, none⟩ (.slice a4 n4 c4)).setCell ⟨w.heap.size, 3, none⟩ (.slice a5 n5 c5)).setCell ⟨w.heap.size, 4, none⟩ (.int .i64 dd.kind)).setCell ⟨w.heap.size, 5, none⟩ (.string dd.table)).setCell ⟨w.heap.size, 6, none⟩ (.slice a6 n6 c6)).setCell ⟨w.heap.size, 7, none⟩ (.slice a7 n7 c7)).setCell ⟨w.heap.size, 8, none⟩ (.string dd.name)).setCell ⟨w.heap.size, 9, none⟩ (.string dd.to)) = W at HM HQ HE ⊢
    obtain ⟨e0, e1, e2, e3, e4, e5, e6, e7, e8, e9⟩ := HQ.loc.ten
    exact bodyPost_ret (v := .agg #[.int .i64 kd, .string dd.table, .slice a4 n4 c4, .slice a5 n5 c5, .int .i64 dd.kind, .string dd.table, .slice a6 n6 c6, .slice a7 n7 c7, .string dd.name, .string dd.to]) (by simp [results, Tryz.results44, go_sem, e0, e1, e2, e3, e4, e5, e6, e7, e8, e9]) rfl (by unfold StmtOut; exact ⟨_, _, _, _, w3.heap.size, w4.heap.size, w5.heap.size, m, w7.heap.size, rfl, HE.out.1, HE.out.2.1, HE.out.2.2.1, HE.out.2.2.2.1, HL4.out, HL5.out, HL6.out, HL7.out, by omega, hs4, hs5, hm3, hm2, HE.out.2.2.2.2, HM.out⟩)

theorem ddlR_any (R : Nat) (tb : ByteArray) (l : List UInt8) (w : World) (h : RdB w R l) :
    Calls Tryz.prog 84 #[.pointer (some ⟨R, 0, none⟩), .string tb] w fun e w' => ∃ a n c a' n' c' m, e = .returned (.agg #[.int .i64 (rdD tb l).1.kind, .string tb, .slice a n c, .slice a' n' c', .string (rdD tb l).1.name, .string (rdD tb l).1.to]) ∧ Got w' w.heap.size 131 7 (.slice a n c) ((rdD tb l).1.cols.map Cl.cells) ∧ Got w' m 9 1 (.slice a' n' c') ((rdD tb l).1.keys.map strX) ∧ (∀ g, (Value.slice a n c).ownBlock = some g → g < m) ∧ w.heap.size ≤ m ∧ m ≤ w'.heap.size ∧ RdB w' R (rdD tb l).2 ∧ Turns (· = R) w w' := by
  have h9 := ddlR_aux R w l (l.drop 1) (rdK (l.drop 1)).2 (rdW (rdK (l.drop 1)).2).2 (rdT (rdW (rdK (l.drop 1)).2).2).2 (rdT (rdT (rdW (rdK (l.drop 1)).2).2).2).2 (rdN 1 l : Nat) tb (rdT (rdW (rdK (l.drop 1)).2).2).1 (rdT (rdT (rdW (rdK (l.drop 1)).2).2).2).1 (rdK (l.drop 1)).1 (rdW (rdK (l.drop 1)).2).1 h (fun u hu => num_any R 1 l u hu (by omega) (by omega)) (fun u hu => readCols_any R _ u hu) (fun u hu => wordsR_any R _ u hu) (fun u hu => text_any R _ u hu) (fun u hu => text_any R _ u hu)
  unfold rdD
  exact h9

/-- (*impl.byteReader).stmt -/
theorem stmtR_any (R : Nat) (l : List UInt8) (w : World) (h : RdB w R l) :
    Calls Tryz.prog 44 #[.pointer (some ⟨R, 0, none⟩)] w fun e w' => ∃ E : Est, e = .returned (.agg E.cells) ∧ E.s = rdS l ∧ w.heap.size ≤ E.lo ∧ E.Good w' ∧ Turns (· = R) w w' := by
  have HD : Hid ((((rdN 1 (l.drop 1) : Nat) : Int) = 5 ∧ (rdS l).ddl.table = (rdT ((l.drop 1).drop 1)).1 ∧ ∀ u : World, RdB u R (rdR (rdR (rdT ((l.drop 1).drop 1)).2).2).2 → Calls Tryz.prog 84 #[.pointer (some ⟨R, 0, none⟩), .string (rdT ((l.drop 1).drop 1)).1] u fun e w' => ∃ a n c a' n' c' m, e = .returned (.agg #[.int .i64 (rdS l).ddl.kind, .string (rdT ((l.drop 1).drop 1)).1, .slice a n c, .slice a' n' c', .string (rdS l).ddl.name, .string (rdS l).ddl.to]) ∧ Got w' u.heap.size 131 7 (.slice a n c) ((rdS l).ddl.cols.map Cl.cells) ∧ Got w' m 9 1 (.slice a' n' c') ((rdS l).ddl.keys.map strX) ∧ (∀ g, (Value.slice a n c).ownBlock = some g → g < m) ∧ u.heap.size ≤ m ∧ m ≤ w'.heap.size ∧ Turns (· = R) u w') ∨ ((((rdN 1 (l.drop 1) : Nat) : Int) == 5) = false ∧ (rdS l).ddl = Dc.zero)) := by
    by_cases h5 : rdN 1 (l.drop 1) = 5
    · have e : (rdS l).ddl = (rdD (rdT ((l.drop 1).drop 1)).1 (rdR (rdR (rdT ((l.drop 1).drop 1)).2).2).2).1 := by unfold rdS; exact if_pos h5
      rw [e]
      exact Or.inl ⟨by omega, rfl, fun u hu => (ddlR_any R _ _ u hu).mono fun e w' ⟨a, n, c, a', n', c', m, h1, h2, h3, h4, h5, h6, _, h8⟩ => ⟨a, n, c, a', n', c', m, h1, h2, h3, h4, h5, h6, h8⟩⟩
    · have e : (rdS l).ddl = Dc.zero := by unfold rdS; exact if_neg h5
      exact Or.inr ⟨beq_eq_false_iff_ne.2 (by omega), e⟩
  refine (stmtR_aux R w l (l.drop 1) ((l.drop 1).drop 1) (rdT ((l.drop 1).drop 1)).2 (rdR (rdT ((l.drop 1).drop 1)).2).2 (rdR (rdR (rdT ((l.drop 1).drop 1)).2).2).2 (rdN 1 (l.drop 1) : Nat) (rdT ((l.drop 1).drop 1)).1 (rdR (rdT ((l.drop 1).drop 1)).2).1 (rdR (rdR (rdT ((l.drop 1).drop 1)).2).2).1 (rdS l).ddl h (fun u hu => (take_any R 1 l u hu (by omega)).mono fun e w' ⟨_, _, _, he, _, _, _, _, hrd, ht⟩ => ⟨_, he, hrd, ht⟩) (fun u hu => num_any R 1 _ u hu (by omega) (by omega)) (fun u hu => text_any R _ u hu) (fun u hu => readValsR_any R _ u hu) (fun u hu => readValsR_any R _ u hu) HD).mono ?_
  rintro e w' ⟨k, r, c, o, b0, b1, b2, b3, b4, he, hk, hr, hc, ho, gk, gr, gc, go, h0, h01, h12, h23, h34, h4, ht⟩
  obtain ⟨E, e1, e2, e3, _, e5⟩ := Est.make (s := rdS l) hk hr hc ho (rdS_fit l).2 gk gr gc go h01 h12 h23 h34 h4
  exact ⟨E, by rw [he, e2]; rfl, e1, by omega, e5, ht⟩

/-- The statement of nothing, of a call's own. -/
theorem Est.nothing (w : World) : ∃ E : Est, E.s = Sc.zero ∧ E.cells = #[.int .i64 0, .string noS, .slice none 0 0, .slice none 0 0, .int .i64 0, .string noS, .slice none 0 0, .slice none 0 0, .string noS, .string noS] ∧ E.lo = w.heap.size ∧ E.Good w := by
  obtain ⟨E, e1, e2, e3, _, e5⟩ := Est.make (w := w) (s := Sc.zero) (b0 := w.heap.size) (b1 := w.heap.size) (b2 := w.heap.size) (b3 := w.heap.size) (b4 := w.heap.size) (Got.nil w _ _ _) (Got.nil w _ _ _) (Got.nil w _ _ _) (Got.nil w _ _ _) ⟨Nat.zero_le _, Nat.zero_le _, Nat.zero_le _, Nat.zero_le _⟩ (fun g h => by cases h) (fun g h => by cases h) (fun g h => by cases h) (fun g h => by cases h) (Nat.le_refl _) (Nat.le_refl _) (Nat.le_refl _) (Nat.le_refl _) (Nat.le_refl _)
  exact ⟨E, e1, e2, e3, e5⟩
/-- A statement of the call's own, its cells spelled out. -/
theorem Est.Good.cellsLit {w : World} {E : Est} {s : Sc} (h : E.Good w) (hs : E.s = s) : ∃ ka kp ra rp ca cp oa op, E.cells = #[.int .i64 s.kind, .string s.table, .slice ka s.key.length kp, .slice ra s.row.length rp, .int .i64 s.ddl.kind, .string s.ddl.table, .slice ca s.ddl.cols.length cp, .slice oa s.ddl.keys.length op, .string s.ddl.name, .string s.ddl.to] ∧ StmtV w #[.int .i64 s.kind, .string s.table, .slice ka s.key.length kp, .slice ra s.row.length rp, .int .i64 s.ddl.kind, .string s.ddl.table, .slice ca s.ddl.cols.length cp, .slice oa s.ddl.keys.length op, .string s.ddl.name, .string s.ddl.to] s := by
  have hv := h.stmt
  rw [hs] at hv
  obtain ⟨ka, kp, ra, rp, ca, cp, oa, op, e, h1, h2, h3, h4⟩ := hv.lit
  exact ⟨ka, kp, ra, rp, ca, cp, oa, op, e, ⟨_, _, _, _, rfl, h1, h2, h3, h4⟩⟩
theorem Est.Good.many {w : World} {E : Est} (h : E.Good w) {b : Nat} (hb : b < E.lo) (vs : List Value) (o : Nat) : E.Good (stores w b o vs) :=
  h.keep (by rw [stores_sizeR]; exact Nat.le_refl _) fun c h1 _ => (stores_turns b vs w w o (Turns.refl _ _)).block c (by have := h.top; omega) (by show ¬ (c = b); omega)

set_option maxRecDepth 100000 in
set_option maxHeartbeats 4000000 in
/-- impl.readBytes of a statement -/
theorem readBytesS_any (b off cap : Nat) (l : List UInt8) (w : World) (hb : b < w.heap.size) (hlc : l.length ≤ cap) (hcm : cap ≤ maxLen) (hr : RowAt w (some ⟨b, off, none⟩) 1 (l.map byX)) :
    Calls Tryz.prog 43 #[.slice (some ⟨b, off, none⟩) l.length cap, .func (.func 44) #[] #[], .func (.func 45) #[] #[]] w fun e w' => ∃ (E : Est) (q : Bool), e = .returned (.tuple #[.agg E.cells, .bool q]) ∧ isStmt l E.s q ∧ w.heap.size ≤ E.lo ∧ E.Good w' ∧ Below w.heap.size w w' := by
  have HR : Hid (RowAt w (some ⟨b, off, none⟩) 1 (l.map byX)) := hr
  have hb0 : Below w.heap.size w ((w.alloc (.cells #[.int .i64 0, .string noS, .slice none 0 0, .slice none 0 0, .int .i64 0, .string noS, .slice none 0 0, .slice none 0 0, .string noS, .string noS] 48)).alloc (.cells #[.slice (some ⟨b, off, none⟩) l.length cap] 133)) := (by repeat (first | with_reducible exact Below.refl _ _ | with_reducible assumption | with_reducible refine ch_alloc ?_ _ | with_reducible refine Below.drew ?_ | with_reducible refine below_draws _ ?_ | (with_reducible refine Below.setCell ?_ ?_ _; rotate_left; focus (first | with_reducible exact Nat.le_refl _ | (simp; done) | (simp; omega) | (simp at *; omega))) | with_reducible refine ch_trans ?_ (by with_reducible assumption)))
  have hz0 : ((w.alloc (.cells #[.int .i64 0, .string noS, .slice none 0 0, .slice none 0 0, .int .i64 0, .string noS, .slice none 0 0, .slice none 0 0, .string noS, .string noS] 48)).alloc (.cells #[.slice (some ⟨b, off, none⟩) l.length cap] 133)).heap.size = w.heap.size + 1 + 1 := by simp
  have HO0 : Own ((w.alloc (.cells #[.int .i64 0, .string noS, .slice none 0 0, .slice none 0 0, .int .i64 0, .string noS, .slice none 0 0, .slice none 0 0, .string noS, .string noS] 48)).alloc (.cells #[.slice (some ⟨b, off, none⟩) l.length cap] 133)) w.heap.size 48 #[.int .i64 0, .string noS, .slice none 0 0, .slice none 0 0, .int .i64 0, .string noS, .slice none 0 0, .slice none 0 0, .string noS, .string noS] := (Own.new _ _ _).on (ch_alloc (Below.refl _ _) _)
  have HRD : Hid (RdB ((w.alloc (.cells #[.int .i64 0, .string noS, .slice none 0 0, .slice none 0 0, .int .i64 0, .string noS, .slice none 0 0, .slice none 0 0, .string noS, .string noS] 48)).alloc (.cells #[.slice (some ⟨b, off, none⟩) l.length cap] 133)) (w.heap.size + 1) l) := ⟨b, off, cap, Own.at _ _ _ (by simp), by omega, hlc, hcm, HR.out.on hb0⟩
  clear hr
  go_enter Tryz.func43, Tryz.ntmps43
  go_wp2_with fail
  refine (stmtR_any (w.heap.size + 1) l _ HRD.out).mono ?_
  rintro e w1 ⟨E, rfl, hes, hlo, hgood, ht⟩
  rw [hz0] at hlo
  have hfit := rdS_fit l
  have HU : Hid (∀ u : Sc, u.right → stmtL u = l → u = rdS l) := fun u h1 h2 => by rw [← h2, rdS_stmt u h1]
  generalize rdS l = s at hes hfit HU
  obtain ⟨ka, kp, ra, rp, ca, cp, oa, op, hcl, hst⟩ := hgood.cellsLit hes
  rw [hcl]
  have HGE : Hid (E.Good w1) := hgood
  have HST : Hid (StmtV w1 #[.int .i64 s.kind, .string s.table, .slice ka s.key.length kp, .slice ra s.row.length rp, .int .i64 s.ddl.kind, .string s.ddl.table, .slice ca s.ddl.cols.length cp, .slice oa s.ddl.keys.length op, .string s.ddl.name, .string s.ddl.to] s) := hst
  have HO1 := HO0.turned ht (by show ¬ (w.heap.size = w.heap.size + 1); omega)
  have hb1 : Below w.heap.size w w1 := hb0.trans (ht.toBelow (fun c h => by have h : c = w.heap.size + 1 := h; omega) (by omega))
  have hs1 : w.heap.size < w1.heap.size := HO1.lt
  clear hgood hst ht HO0 hb0 hz0 HRD
  have hbu : Below w1.heap.size w1 (w1.alloc (.cells #[.int .i64 s.kind, .string s.table, .slice ka s.key.length kp, .slice ra s.row.length rp, .int .i64 s.ddl.kind, .string s.ddl.table, .slice ca s.ddl.cols.length cp, .slice oa s.ddl.keys.length op, .string s.ddl.name, .string s.ddl.to] 48)) := (by repeat (first | with_reducible exact Below.refl _ _ | with_reducible assumption | with_reducible refine ch_alloc ?_ _ | with_reducible refine Below.drew ?_ | with_reducible refine below_draws _ ?_ | (with_reducible refine Below.setCell ?_ ?_ _; rotate_left; focus (first | with_reducible exact Nat.le_refl _ | (simp; done) | (simp; omega) | (simp at *; omega))) | with_reducible refine ch_trans ?_ (by with_reducible assumption)))
  obtain ⟨qr, Lr, hqr⟩ : ∃ (q : Bool) (L : List UInt8), (q = true ∧ s.right ∧ L = stmtL s) ∨ (q = false ∧ ¬ s.right ∧ L = []) := by
    by_cases h : s.right
    · exact ⟨true, _, Or.inl ⟨rfl, h, rfl⟩⟩
    · exact ⟨false, _, Or.inr ⟨rfl, h, rfl⟩⟩
  have hl1 := (Loc.new w1 #[.int .i64 s.kind, .string s.table, .slice ka s.key.length kp, .slice ra s.row.length rp, .int .i64 s.ddl.kind, .string s.ddl.table, .slice ca s.ddl.cols.length cp, .slice oa s.ddl.keys.length op, .string s.ddl.name, .string s.ddl.to] 48)
  obtain ⟨p0, p1, p2, p3, p4, p5, p6, p7, p8, p9⟩ := hl1.ten
  go_wp2_with fail
  refine (stmtBytes_impl #[.int .i64 s.kind, .string s.table, .slice ka s.key.length kp, .slice ra s.row.length rp, .int .i64 s.ddl.kind, .string s.ddl.table, .slice ca s.ddl.cols.length cp, .slice oa s.ddl.keys.length op, .string s.ddl.name, .string s.ddl.to] s _ (HST.out.on hbu) hfit.1 qr Lr hqr).mono ?_
  rintro e w2 ⟨v2, rfl, b2, hg2⟩
  have hl2 := hl1.on b2
  have hbw2 : Below w1.heap.size w1 w2 := ch_trans hbu b2
  have HO2 := HO1.on hbw2
  have HE2 : Hid (E.Good w2) := HGE.out.on hbw2
  have hb2 : Below w.heap.size w w2 := ch_trans hb1 hbw2
  have hs2 : w1.heap.size ≤ w2.heap.size := hbw2.size
  obtain ⟨a2, n2, c2, rfl, hg2⟩ := hg2.lit2
  clear p0 p1 p2 p3 p4 p5 p6 p7 p8 p9 HO1 hbu b2 hl1 HGE HST hb1
  have HFAIL : Hid (∀ (w3 : World), Below w2.heap.size w2 w3 → ∃ E0 : Est, E0.cells = #[.int .i64 0, .string noS, .slice none 0 0, .slice none 0 0, .int .i64 0, .string noS, .slice none 0 0, .slice none 0 0, .string noS, .string noS] ∧ E0.s = Sc.zero ∧ Below w.heap.size w (stores (w3.alloc (.cells #[.int .i64 0, .string noS, .slice none 0 0, .slice none 0 0, .int .i64 0, .string noS, .slice none 0 0, .slice none 0 0, .string noS, .string noS] 48)) w.heap.size 0 [.int .i64 0, .string noS, .slice none 0 0, .slice none 0 0, .int .i64 0, .string noS, .slice none 0 0, .slice none 0 0, .string noS, .string noS]) ∧ w.heap.size ≤ E0.lo ∧ E0.Good (stores (w3.alloc (.cells #[.int .i64 0, .string noS, .slice none 0 0, .slice none 0 0, .int .i64 0, .string noS, .slice none 0 0, .slice none 0 0, .string noS, .string noS] 48)) w.heap.size 0 [.int .i64 0, .string noS, .slice none 0 0, .slice none 0 0, .int .i64 0, .string noS, .slice none 0 0, .slice none 0 0, .string noS, .string noS]) ∧ Own (stores (w3.alloc (.cells #[.int .i64 0, .string noS, .slice none 0 0, .slice none 0 0, .int .i64 0, .string noS, .slice none 0 0, .slice none 0 0, .string noS, .string noS] 48)) w.heap.size 0 [.int .i64 0, .string noS, .slice none 0 0, .slice none 0 0, .int .i64 0, .string noS, .slice none 0 0, .slice none 0 0, .string noS, .string noS]) w.heap.size 48 #[.int .i64 0, .string noS, .slice none 0 0, .slice none 0 0, .int .i64 0, .string noS, .slice none 0 0, .slice none 0 0, .string noS, .string noS]) := fun w3 h23 => by
    obtain ⟨E0, z1, z2, z3, z4⟩ := Est.nothing (w3.alloc (.cells #[.int .i64 0, .string noS, .slice none 0 0, .slice none 0 0, .int .i64 0, .string noS, .slice none 0 0, .slice none 0 0, .string noS, .string noS] 48))
    have hs3 := h23.size
    have h3 : Below w3.heap.size w3 (w3.alloc (.cells #[.int .i64 0, .string noS, .slice none 0 0, .slice none 0 0, .int .i64 0, .string noS, .slice none 0 0, .slice none 0 0, .string noS, .string noS] 48)) := ch_alloc (Below.refl _ _) _
    refine ⟨E0, z2, z1, stores_below (Nat.le_refl _) _ _ _ (ch_trans (ch_trans hb2 h23) h3), by rw [z3]; simp; omega, z4.many (by rw [z3]; simp; omega) _ _, ?_⟩
    exact (HO2.on (ch_trans h23 h3)).fill (old := [_, _, _, _, _, _, _, _, _, _]) [.int .i64 0, .string noS, .slice none 0 0, .slice none 0 0, .int .i64 0, .string noS, .slice none 0 0, .slice none 0 0, .string noS, .string noS] rfl
  rcases hqr with ⟨rfl, hok, rfl⟩ | ⟨rfl, hok, rfl⟩
  rotate_left
  · have HI : Hid (isStmt l Sc.zero false) := Or.inr ⟨rfl, fun u h1 h2 => by
      have e := HU.out u h1 h2
      subst e
      exact hok h1, rfl⟩
    clear hg2 hok HU HR
    obtain ⟨E0, z1, z2, hB, hlo0, hG0, hQ⟩ := HFAIL.out w2 (Below.refl w2.heap.size w2)
    have HO3 := HO2.on (ch_trans (Below.refl w2.heap.size w2) (ch_alloc (Below.refl w2.heap.size w2) (.cells #[.int .i64 0, .string noS, .slice none 0 0, .slice none 0 0, .int .i64 0, .string noS, .slice none 0 0, .slice none 0 0, .string noS, .string noS] 48)))
    obtain ⟨d0, d1, d2, d3, d4, d5, d6, d7, d8, d9⟩ := HO3.loc.ten
    have k0 := HO3.frozen 0
    have k1 := HO3.frozen 1
    have k2 := HO3.frozen 2
    have k3 := HO3.frozen 3
    have k4 := HO3.frozen 4
    have k5 := HO3.frozen 5
    have k6 := HO3.frozen 6
    have k7 := HO3.frozen 7
    have k8 := HO3.frozen 8
    have k9 := HO3.frozen 9
    have HGd : Hid (E0.Good _) := hG0
    have HBd : Hid _ := hB
    clear hG0 hB HFAIL HO3 HO2
    simp only [stores, Nat.reduceAdd] at hQ HBd HGd
    go_wp2
    generalize (((((((((((w2.alloc (.cells #[.int .i64 0, .string noS, .slice none 0 0, .slice none 0 0, .int .i64 0, .string noS, .slice none 0 0, .slice none 0 0, .string noS, .string noS] 48)).setCell ⟨w.heap.size, 0, none⟩ (.int .i64 0)).setCell ⟨w.heap.size, 1, none⟩ (.string noS)).setCell ⟨w.heap.size, 2, none⟩ (.slice none 0 0)).setCell ⟨w.heap.size, 3, none⟩ (.slice none 0 0)).setCell ⟨w.heap.size, 4, none⟩ (.int .i64 0)).setCell ⟨w.heap.size, 5, none⟩ (.string noS)).setCell ⟨w.heap.size, 6, none⟩ (.slice none 0 0)).setCell ⟨w.heap.size, 7, none⟩ (.slice none 0 0)).setCell ⟨w.heap.size, 8, none⟩ (.string noS)).setCell ⟨w.heap.size, 9, none⟩ (.string noS)) = W at hQ HBd HGd ⊢
    obtain ⟨e0, e1, e2, e3, e4, e5, e6, e7, e8, e9⟩ := hQ.loc.ten
    exact bodyPost_ret (v := .tuple #[.agg #[.int .i64 0, .string noS, .slice none 0 0, .slice none 0 0, .int .i64 0, .string noS, .slice none 0 0, .slice none 0 0, .string noS, .string noS], .bool false]) (by simp [results, Tryz.results43, go_sem, e0, e1, e2, e3, e4, e5, e6, e7, e8, e9]) rfl ⟨E0, false, by rw [z1], by rw [z2]; exact HI.out, hlo0, HGd.out, HBd.out⟩
  · obtain ⟨bb, bo, bc, e2, hr2⟩ := hg2.someV (by simp [stmtL])
    cases e2
    have HE : Hid (Calls Tryz.prog 79 #[.slice (some ⟨bb, bo, none⟩) (stmtL s).length c2, .slice (some ⟨b, off, none⟩) l.length cap] w2 fun e w' => ∃ q : Bool, e = .returned (.bool q) ∧ (q = true ↔ stmtL s = l) ∧ Below w2.heap.size w2 w') := bytesEqual_any _ _ (stmtL s) l w2 ⟨bb, bo, c2, rfl, hr2⟩ ⟨b, off, cap, rfl, HR.out.on hb2⟩
    have HOK : Hid s.right := hok
    clear hg2 hr2 hok HR
    generalize (stmtL s).length = nl at HE ⊢
    go_wp2_with fail
    refine HE.out.mono ?_
    rintro e w3 ⟨q, rfl, hq, b3⟩
    have HQ : Hid (q = true ↔ stmtL s = l) := hq
    clear hq HE
    cases q with
    | true =>
      have HI : Hid (isStmt l s true) := Or.inl ⟨rfl, HOK.out, HQ.out.1 rfl⟩
      obtain ⟨p0, p1, p2, p3, p4, p5, p6, p7, p8, p9⟩ := (hl2.on b3).ten
      have HO3 := HO2.on b3
      obtain ⟨d0, d1, d2, d3, d4, d5, d6, d7, d8, d9⟩ := HO3.loc.ten
      have k0 := HO3.frozen 0
      have k1 := HO3.frozen 1
      have k2 := HO3.frozen 2
      have k3 := HO3.frozen 3
      have k4 := HO3.frozen 4
      have k5 := HO3.frozen 5
      have k6 := HO3.frozen 6
      have k7 := HO3.frozen 7
      have k8 := HO3.frozen 8
      have k9 := HO3.frozen 9
      have hQ : Own (stores w3 w.heap.size 0 [.int .i64 s.kind, .string s.table, .slice ka s.key.length kp, .slice ra s.row.length rp, .int .i64 s.ddl.kind, .string s.ddl.table, .slice ca s.ddl.cols.length cp, .slice oa s.ddl.keys.length op, .string s.ddl.name, .string s.ddl.to]) w.heap.size 48 #[.int .i64 s.kind, .string s.table, .slice ka s.key.length kp, .slice ra s.row.length rp, .int .i64 s.ddl.kind, .string s.ddl.table, .slice ca s.ddl.cols.length cp, .slice oa s.ddl.keys.length op, .string s.ddl.name, .string s.ddl.to] := HO3.fill (old := [_, _, _, _, _, _, _, _, _, _]) [.int .i64 s.kind, .string s.table, .slice ka s.key.length kp, .slice ra s.row.length rp, .int .i64 s.ddl.kind, .string s.ddl.table, .slice ca s.ddl.cols.length cp, .slice oa s.ddl.keys.length op, .string s.ddl.name, .string s.ddl.to] rfl
      have HGd : Hid (E.Good (stores w3 w.heap.size 0 [.int .i64 s.kind, .string s.table, .slice ka s.key.length kp, .slice ra s.row.length rp, .int .i64 s.ddl.kind, .string s.ddl.table, .slice ca s.ddl.cols.length cp, .slice oa s.ddl.keys.length op, .string s.ddl.name, .string s.ddl.to])) := (HE2.out.on b3).many (by omega) _ _
      have HBd : Hid (Below w.heap.size w (stores w3 w.heap.size 0 [.int .i64 s.kind, .string s.table, .slice ka s.key.length kp, .slice ra s.row.length rp, .int .i64 s.ddl.kind, .string s.ddl.table, .slice ca s.ddl.cols.length cp, .slice oa s.ddl.keys.length op, .string s.ddl.name, .string s.ddl.to])) := stores_below (Nat.le_refl _) _ _ _ (ch_trans hb2 b3)
      clear HFAIL HO3 HO2 HQ HU HE2 b3 hl2 HOK
      simp only [stores, Nat.reduceAdd] at hQ HBd HGd
      go_wp2
      generalize ((((((((((w3.setCell ⟨w.heap.size, 0, none⟩ (.int .i64 s.kind)).setCell ⟨w.heap.size, 1, none⟩ (.string s.table)).setCell ⟨w.heap.size, 2, none⟩ (.slice ka s.key.length kp)).setCell ⟨w.heap.size, 3, none⟩ (.slice ra s.row.length rp)).setCell ⟨w.heap.size, 4, none⟩ (.int .i64 s.ddl.kind)).setCell ⟨w.heap.size, 5, none⟩ (.string s.ddl.table)).setCell ⟨w.heap.size, 6, none⟩ (.slice ca s.ddl.cols.length cp)).setCell ⟨w.heap.size, 7, none⟩ (.slice oa s.ddl.keys.length op)).setCell ⟨w.heap.size, 8, none⟩ (.string s.ddl.name)).setCell ⟨w.heap.size, 9, none⟩ (.string s.ddl.to)) = W at hQ HBd HGd ⊢
      obtain ⟨e0, e1, e2, e3, e4, e5, e6, e7, e8, e9⟩ := hQ.loc.ten
      exact bodyPost_ret (v := .tuple #[.agg #[.int .i64 s.kind, .string s.table, .slice ka s.key.length kp, .slice ra s.row.length rp, .int .i64 s.ddl.kind, .string s.ddl.table, .slice ca s.ddl.cols.length cp, .slice oa s.ddl.keys.length op, .string s.ddl.name, .string s.ddl.to], .bool true]) (by simp [results, Tryz.results43, go_sem, e0, e1, e2, e3, e4, e5, e6, e7, e8, e9]) rfl ⟨E, true, by rw [hcl], by rw [hes]; exact HI.out, by omega, HGd.out, HBd.out⟩
    | false =>
      have HI : Hid (isStmt l Sc.zero false) := Or.inr ⟨rfl, fun u h1 h2 => by
        have e := HU.out u h1 h2
        subst e
        exact absurd (HQ.out.2 h2) (by simp), rfl⟩
      clear HQ HU HE2 hl2 HOK
      obtain ⟨E0, z1, z2, hB, hlo0, hG0, hQ⟩ := HFAIL.out w3 b3
      have HO3 := HO2.on (ch_trans b3 (ch_alloc (Below.refl w3.heap.size w3) (.cells #[.int .i64 0, .string noS, .slice none 0 0, .slice none 0 0, .int .i64 0, .string noS, .slice none 0 0, .slice none 0 0, .string noS, .string noS] 48)))
      obtain ⟨d0, d1, d2, d3, d4, d5, d6, d7, d8, d9⟩ := HO3.loc.ten
      have k0 := HO3.frozen 0
      have k1 := HO3.frozen 1
      have k2 := HO3.frozen 2
      have k3 := HO3.frozen 3
      have k4 := HO3.frozen 4
      have k5 := HO3.frozen 5
      have k6 := HO3.frozen 6
      have k7 := HO3.frozen 7
      have k8 := HO3.frozen 8
      have k9 := HO3.frozen 9
      have HGd : Hid (E0.Good _) := hG0
      have HBd : Hid _ := hB
      clear hG0 hB HFAIL HO3 HO2
      simp only [stores, Nat.reduceAdd] at hQ HBd HGd
      go_wp2
      generalize (((((((((((w3.alloc (.cells #[.int .i64 0, .string noS, .slice none 0 0, .slice none 0 0, .int .i64 0, .string noS, .slice none 0 0, .slice none 0 0, .string noS, .string noS] 48)).setCell ⟨w.heap.size, 0, none⟩ (.int .i64 0)).setCell ⟨w.heap.size, 1, none⟩ (.string noS)).setCell ⟨w.heap.size, 2, none⟩ (.slice none 0 0)).setCell ⟨w.heap.size, 3, none⟩ (.slice none 0 0)).setCell ⟨w.heap.size, 4, none⟩ (.int .i64 0)).setCell ⟨w.heap.size, 5, none⟩ (.string noS)).setCell ⟨w.heap.size, 6, none⟩ (.slice none 0 0)).setCell ⟨w.heap.size, 7, none⟩ (.slice none 0 0)).setCell ⟨w.heap.size, 8, none⟩ (.string noS)).setCell ⟨w.heap.size, 9, none⟩ (.string noS)) = W at hQ HBd HGd ⊢
      obtain ⟨e0, e1, e2, e3, e4, e5, e6, e7, e8, e9⟩ := hQ.loc.ten
      exact bodyPost_ret (v := .tuple #[.agg #[.int .i64 0, .string noS, .slice none 0 0, .slice none 0 0, .int .i64 0, .string noS, .slice none 0 0, .slice none 0 0, .string noS, .string noS], .bool false]) (by simp [results, Tryz.results43, go_sem, e0, e1, e2, e3, e4, e5, e6, e7, e8, e9]) rfl ⟨E0, false, by rw [z1], by rw [z2]; exact HI.out, hlo0, HGd.out, HBd.out⟩

set_option maxRecDepth 100000 in
set_option maxHeartbeats 1000000 in
/-- impl.ReadStmt -/
theorem readStmt_impl (b off cap : Nat) (l : List UInt8) (w : World) (hb : b < w.heap.size) (hlc : l.length ≤ cap) (hcm : cap ≤ maxLen) (hr : RowAt w (some ⟨b, off, none⟩) 1 (l.map byX)) :
    Calls Tryz.prog 17 #[.slice (some ⟨b, off, none⟩) l.length cap] w fun e w' => ∃ (E : Est) (q : Bool), e = .returned (.tuple #[.agg E.cells, .bool q]) ∧ isStmt l E.s q ∧ w.heap.size ≤ E.lo ∧ E.Good w' ∧ Below w.heap.size w w' := by
  have hb0 : Below w.heap.size w (w.alloc (.cells #[.int .i64 0, .string noS, .slice none 0 0, .slice none 0 0, .int .i64 0, .string noS, .slice none 0 0, .slice none 0 0, .string noS, .string noS] 48)) := (by repeat (first | with_reducible exact Below.refl _ _ | with_reducible assumption | with_reducible refine ch_alloc ?_ _ | with_reducible refine Below.drew ?_ | with_reducible refine below_draws _ ?_ | (with_reducible refine Below.setCell ?_ ?_ _; rotate_left; focus (first | with_reducible exact Nat.le_refl _ | (simp; done) | (simp; omega) | (simp at *; omega))) | with_reducible refine ch_trans ?_ (by with_reducible assumption)))
  have HO0 := Own.new w 48 #[.int .i64 0, .string noS, .slice none 0 0, .slice none 0 0, .int .i64 0, .string noS, .slice none 0 0, .slice none 0 0, .string noS, .string noS]
  have HB : Hid (Calls Tryz.prog 43 #[.slice (some ⟨b, off, none⟩) l.length cap, .func (.func 44) #[] #[], .func (.func 45) #[] #[]] (w.alloc (.cells #[.int .i64 0, .string noS, .slice none 0 0, .slice none 0 0, .int .i64 0, .string noS, .slice none 0 0, .slice none 0 0, .string noS, .string noS] 48)) fun e w' => ∃ (E : Est) (q : Bool), e = .returned (.tuple #[.agg E.cells, .bool q]) ∧ isStmt l E.s q ∧ (w.alloc (.cells #[.int .i64 0, .string noS, .slice none 0 0, .slice none 0 0, .int .i64 0, .string noS, .slice none 0 0, .slice none 0 0, .string noS, .string noS] 48)).heap.size ≤ E.lo ∧ E.Good w' ∧ Below (w.alloc (.cells #[.int .i64 0, .string noS, .slice none 0 0, .slice none 0 0, .int .i64 0, .string noS, .slice none 0 0, .slice none 0 0, .string noS, .string noS] 48)).heap.size (w.alloc (.cells #[.int .i64 0, .string noS, .slice none 0 0, .slice none 0 0, .int .i64 0, .string noS, .slice none 0 0, .slice none 0 0, .string noS, .string noS] 48)) w') := readBytesS_any b off cap l _ (by simp; omega) hlc hcm (hr.on hb0)
  clear hr
  go_enter Tryz.func17, Tryz.ntmps17
  go_wp2_with fail
  refine HB.out.mono ?_
  rintro e w1 ⟨E, q, rfl, hi, hlo, hgood, b1⟩
  obtain ⟨s, hs⟩ : ∃ s, E.s = s := ⟨_, rfl⟩
  obtain ⟨ka, kp, ra, rp, ca, cp, oa, op, hcl, _⟩ := hgood.cellsLit hs
  rw [hcl]
  have HI : Hid (isStmt l E.s q) := hi
  have HO3 := HO0.on b1
  obtain ⟨d0, d1, d2, d3, d4, d5, d6, d7, d8, d9⟩ := HO3.loc.ten
  have k0 := HO3.frozen 0
  have k1 := HO3.frozen 1
  have k2 := HO3.frozen 2
  have k3 := HO3.frozen 3
  have k4 := HO3.frozen 4
  have k5 := HO3.frozen 5
  have k6 := HO3.frozen 6
  have k7 := HO3.frozen 7
  have k8 := HO3.frozen 8
  have k9 := HO3.frozen 9
  have hlo' : w.heap.size < E.lo := by simp at hlo; omega
  have hQ : Own (stores w1 w.heap.size 0 [.int .i64 s.kind, .string s.table, .slice ka s.key.length kp, .slice ra s.row.length rp, .int .i64 s.ddl.kind, .string s.ddl.table, .slice ca s.ddl.cols.length cp, .slice oa s.ddl.keys.length op, .string s.ddl.name, .string s.ddl.to]) w.heap.size 48 #[.int .i64 s.kind, .string s.table, .slice ka s.key.length kp, .slice ra s.row.length rp, .int .i64 s.ddl.kind, .string s.ddl.table, .slice ca s.ddl.cols.length cp, .slice oa s.ddl.keys.length op, .string s.ddl.name, .string s.ddl.to] := HO3.fill (old := [_, _, _, _, _, _, _, _, _, _]) [.int .i64 s.kind, .string s.table, .slice ka s.key.length kp, .slice ra s.row.length rp, .int .i64 s.ddl.kind, .string s.ddl.table, .slice ca s.ddl.cols.length cp, .slice oa s.ddl.keys.length op, .string s.ddl.name, .string s.ddl.to] rfl
  have HGd : Hid (E.Good (stores w1 w.heap.size 0 [.int .i64 s.kind, .string s.table, .slice ka s.key.length kp, .slice ra s.row.length rp, .int .i64 s.ddl.kind, .string s.ddl.table, .slice ca s.ddl.cols.length cp, .slice oa s.ddl.keys.length op, .string s.ddl.name, .string s.ddl.to])) := hgood.many (by omega) _ _
  have HBd : Hid (Below w.heap.size w (stores w1 w.heap.size 0 [.int .i64 s.kind, .string s.table, .slice ka s.key.length kp, .slice ra s.row.length rp, .int .i64 s.ddl.kind, .string s.ddl.table, .slice ca s.ddl.cols.length cp, .slice oa s.ddl.keys.length op, .string s.ddl.name, .string s.ddl.to])) := stores_below (Nat.le_refl _) _ _ _ (ch_trans hb0 b1)
  clear HO3 HO0 hgood b1 hb0 HB hi hlo
  simp only [stores, Nat.reduceAdd] at hQ HBd HGd
  go_wp2
  generalize ((((((((((w1.setCell ⟨w.heap.size, 0, none⟩ (.int .i64 s.kind)).setCell ⟨w.heap.size, 1, none⟩ (.string s.table)).setCell ⟨w.heap.size, 2, none⟩ (.slice ka s.key.length kp)).setCell ⟨w.heap.size, 3, none⟩ (.slice ra s.row.length rp)).setCell ⟨w.heap.size, 4, none⟩ (.int .i64 s.ddl.kind)).setCell ⟨w.heap.size, 5, none⟩ (.string s.ddl.table)).setCell ⟨w.heap.size, 6, none⟩ (.slice ca s.ddl.cols.length cp)).setCell ⟨w.heap.size, 7, none⟩ (.slice oa s.ddl.keys.length op)).setCell ⟨w.heap.size, 8, none⟩ (.string s.ddl.name)).setCell ⟨w.heap.size, 9, none⟩ (.string s.ddl.to)) = W at hQ HBd HGd ⊢
  obtain ⟨e0, e1, e2, e3, e4, e5, e6, e7, e8, e9⟩ := hQ.loc.ten
  exact bodyPost_ret (v := .tuple #[.agg #[.int .i64 s.kind, .string s.table, .slice ka s.key.length kp, .slice ra s.row.length rp, .int .i64 s.ddl.kind, .string s.ddl.table, .slice ca s.ddl.cols.length cp, .slice oa s.ddl.keys.length op, .string s.ddl.name, .string s.ddl.to], .bool q]) (by simp [results, Tryz.results17, go_sem, e0, e1, e2, e3, e4, e5, e6, e7, e8, e9]) rfl ⟨E, q, by rw [hcl], HI.out, by omega, HGd.out, HBd.out⟩
end Go.Proofs.YtiijahoheajppaaGreat
