/- The given ReadStmt. Batches as bytes: given. -/
import Derived.Test.YtiijahoheajppaaGreatRkd
import Derived.Test.YtiijahoheajppaaGreatPkf
import Derived.Test.YtiijahoheajppaaGreatZa
namespace Go.Proofs.YtiijahoheajppaaGreat
open Go.ChangeShapes Go.WideShapes Go.ChangeAt Go.RowKit

set_option maxRecDepth 100000 in
set_option maxHeartbeats 2000000 in
/-- spec.ReadStmt -/
theorem readStmt_spec (b off cap : Nat) (l : List UInt8) (w : World) (hb : b < w.heap.size) (hlc : l.length ≤ cap) (hcm : cap ≤ maxLen) (hl : l.length ≤ 1048576) (hr : RowAt w (some ⟨b, off, none⟩) 1 (l.map byX)) :
    Calls Tryz.prog 15 #[.slice (some ⟨b, off, none⟩) l.length cap] w fun e w' => ∃ (E : Est) (q : Bool), e = .returned (.tuple #[.agg E.cells, .bool q]) ∧ isStmt l E.s q ∧ w.heap.size ≤ E.lo ∧ E.Good w' ∧ Below w.heap.size w w' := by
  have HR : Hid (RowAt w (some ⟨b, off, none⟩) 1 (l.map byX)) := hr
  have hb0 : Below w.heap.size w ((w.alloc (.cells #[.int .i64 0, .string noS, .slice none 0 0, .slice none 0 0, .int .i64 0, .string noS, .slice none 0 0, .slice none 0 0, .string noS, .string noS] 48)).alloc (.cells #[.slice (some ⟨b, off, none⟩) l.length cap, .int .i64 1] 78)) := (by repeat (first | with_reducible exact Below.refl _ _ | with_reducible assumption | with_reducible refine ch_alloc ?_ _ | with_reducible refine Below.drew ?_ | with_reducible refine below_draws _ ?_ | (with_reducible refine Below.setCell ?_ ?_ _; rotate_left; focus (first | with_reducible exact Nat.le_refl _ | (simp; done) | (simp; omega) | (simp at *; omega))) | with_reducible refine ch_trans ?_ (by with_reducible assumption)))
  have hz0 : ((w.alloc (.cells #[.int .i64 0, .string noS, .slice none 0 0, .slice none 0 0, .int .i64 0, .string noS, .slice none 0 0, .slice none 0 0, .string noS, .string noS] 48)).alloc (.cells #[.slice (some ⟨b, off, none⟩) l.length cap, .int .i64 1] 78)).heap.size = w.heap.size + 1 + 1 := by simp
  have HO0 : Own ((w.alloc (.cells #[.int .i64 0, .string noS, .slice none 0 0, .slice none 0 0, .int .i64 0, .string noS, .slice none 0 0, .slice none 0 0, .string noS, .string noS] 48)).alloc (.cells #[.slice (some ⟨b, off, none⟩) l.length cap, .int .i64 1] 78)) w.heap.size 48 #[.int .i64 0, .string noS, .slice none 0 0, .slice none 0 0, .int .i64 0, .string noS, .slice none 0 0, .slice none 0 0, .string noS, .string noS] := (Own.new _ _ _).on (ch_alloc (Below.refl _ _) _)
  have HD0 : Hid (SdB ((w.alloc (.cells #[.int .i64 0, .string noS, .slice none 0 0, .slice none 0 0, .int .i64 0, .string noS, .slice none 0 0, .slice none 0 0, .string noS, .string noS] 48)).alloc (.cells #[.slice (some ⟨b, off, none⟩) l.length cap, .int .i64 1] 78)) (w.heap.size + 1) l 1) := ⟨b, off, cap, Own.at _ _ _ (by simp), by omega, hlc, hcm, HR.out.on hb0⟩
  have HN0 : Hid (∀ (u : World) (q : Nat), SdB u (w.heap.size + 1) l q → q ≤ 100000000 → Calls Tryz.prog 39 #[.pointer (some ⟨w.heap.size + 1, 0, none⟩), .int .i64 1] u fun e w' => e = .returned (.int .i64 (rdN 1 (l.drop q) : Int)) ∧ SdB w' (w.heap.size + 1) l (q + 1) ∧ Turns (· = w.heap.size + 1) u w') := fun u q hu hq => l06Take_any _ 1 q l u hu (by omega) (by omega) (by omega)
  have HX0 : Hid (∀ (u : World) (q : Nat), SdB u (w.heap.size + 1) l (q + 1) → q ≤ 100000000 → Calls Tryz.prog 40 #[.pointer (some ⟨w.heap.size + 1, 0, none⟩), .int .i64 (rdN 1 (l.drop q) : Int)] u fun e w' => e = .returned (.string (spX l q).1) ∧ SdB w' (w.heap.size + 1) l (spX l q).2 ∧ Turns (· = w.heap.size + 1) u w') := fun u q hu hq => l06Text_any _ (rdN 1 (l.drop q)) (q + 1) l u hu (by have := rdN_byte (l.drop q); omega) (by omega) hl
  have HV0 : Hid (∀ (u : World) (q : Nat), SdB u (w.heap.size + 1) l q → q ≤ 2000000 → Calls Tryz.prog 41 #[.pointer (some ⟨w.heap.size + 1, 0, none⟩)] u fun e w' => ∃ v, e = .returned v ∧ Got w' u.heap.size 128 3 v ((spR l q).1.map Vc.cells) ∧ SdB w' (w.heap.size + 1) l (spR l q).2 ∧ Turns (· = w.heap.size + 1) u w') := fun u q hu hq => l06Vals_at _ q l u hu hl hq
  have HDD : Hid (∀ (u : World) (q : Nat) (tb : ByteArray), SdB u (w.heap.size + 1) l q → q ≤ 2000000 → Calls Tryz.prog 42 #[.pointer (some ⟨w.heap.size + 1, 0, none⟩), .string tb] u fun e w' => DdlOut (w.heap.size + 1) u (spD tb l q).1 e w') := fun u q tb hu hq => readDdl_any _ q tb l u hu hl hq
  have HSD : Hid (spS l = ⟨(rdN 1 (l.drop 1) : Int), (spX l 2).1, (spR l (spX l 2).2).1, (spR l (spR l (spX l 2).2).2).1, if rdN 1 (l.drop 1) = 5 then (spD (spX l 2).1 l (spR l (spR l (spX l 2).2).2).2).1 else Dc.zero⟩) := rfl
  have HFIT : Hid ((spS l).fit ∧ (spS l).few) := spS_fit l
  have HU : Hid (∀ u : Sc, u.right → stmtL u = l → u = spS l) := fun u h1 h2 => by rw [← h2, spS_stmt u h1]
  have hx2 := spX_le l 2
  have hr1 := spR_le l (spX l 2).2
  have hr2 := spR_le l (spR l (spX l 2).2).2
  clear hr
  generalize spS l = SS at HSD HFIT HU
  go_enter Tryz.func15, Tryz.ntmps15
  go_wp2_with fail
  refine (HN0.out _ 1 HD0.out (by omega)).mono ?_
  rintro e w1 ⟨rfl, hd, ht⟩
  have HO1 := HO0.turned ht (by show ¬ (w.heap.size = w.heap.size + 1); omega)
  have hb1 : Below w.heap.size w w1 := hb0.trans (ht.toBelow (fun c h => by have h : c = w.heap.size + 1 := h; omega) (by omega))
  have hs1 : w.heap.size + 1 < w1.heap.size := by have := ht.size; omega
  have HD1 := hd
  clear hd ht HO0 HD0 hb0 hz0
  generalize hN5 : rdN 1 (l.drop 1) = N at HSD ⊢
  clear hN5
  have hbP : Below w1.heap.size w1 (w1.alloc (.cells #[.int .i64 (N : Int), .string noS, .slice none 0 0, .slice none 0 0, .int .i64 0, .string noS, .slice none 0 0, .slice none 0 0, .string noS, .string noS] 48)) := ch_alloc (Below.refl _ _) _
  have HP1 : Own (w1.alloc (.cells #[.int .i64 (N : Int), .string noS, .slice none 0 0, .slice none 0 0, .int .i64 0, .string noS, .slice none 0 0, .slice none 0 0, .string noS, .string noS] 48)) w1.heap.size 48 #[.int .i64 (N : Int), .string noS, .slice none 0 0, .slice none 0 0, .int .i64 0, .string noS, .slice none 0 0, .slice none 0 0, .string noS, .string noS] := Own.new _ _ _
  have HO1' := HO1.on hbP
  have HD1' := HD1.on hbP
  have hb1' := ch_trans hb1 hbP
  have hz1 : (w1.alloc (.cells #[.int .i64 (N : Int), .string noS, .slice none 0 0, .slice none 0 0, .int .i64 0, .string noS, .slice none 0 0, .slice none 0 0, .string noS, .string noS] 48)).heap.size = w1.heap.size + 1 := by simp
  clear HO1 HD1 hb1
  go_wp2_with fail
  generalize w1.alloc (.cells #[.int .i64 (N : Int), .string noS, .slice none 0 0, .slice none 0 0, .int .i64 0, .string noS, .slice none 0 0, .slice none 0 0, .string noS, .string noS] 48) = u1 at hbP HP1 HO1' HD1' hb1' hz1 ⊢
  generalize w1.heap.size = P at hs1 HP1 hz1 ⊢
  refine (HN0.out _ 2 HD1' (by omega)).mono ?_
  rintro e w2 ⟨rfl, hd, ht⟩
  have HP2 := HP1.turned ht (by show ¬ (P = w.heap.size + 1); omega)
  have HO2 := HO1'.turned ht (by show ¬ (w.heap.size = w.heap.size + 1); omega)
  have hb2 : Below w.heap.size w w2 := hb1'.trans (ht.toBelow (fun c h => by have h : c = w.heap.size + 1 := h; omega) (by have := hb1'.size; omega))
  have hs2 : P < w2.heap.size := HP2.lt
  have HD2 := hd
  clear hd ht HP1 HO1' HD1' hb1' hz1 hbP
  have HXa := HX0.out w2 2 HD2 (by omega)
  generalize spX l 2 = X at HXa HSD hx2 hr1 hr2
  generalize rdN 1 (l.drop 2) = M2 at HXa
  have HXa' : Hid (Calls Tryz.prog 40 #[.pointer (some ⟨w.heap.size + 1, 0, none⟩), .int .i64 (M2 : Int)] w2 fun e w' => e = .returned (.string X.1) ∧ SdB w' (w.heap.size + 1) l X.2 ∧ Turns (· = w.heap.size + 1) w2 w') := HXa
  clear HXa
  go_wp2_with fail
  refine HXa'.out.mono ?_
  rintro e w3 ⟨rfl, hd, ht⟩
  have HP3 := HP2.turned ht (by show ¬ (P = w.heap.size + 1); omega)
  have HO3 := HO2.turned ht (by show ¬ (w.heap.size = w.heap.size + 1); omega)
  have hb3 : Below w.heap.size w w3 := hb2.trans (ht.toBelow (fun c h => by have h : c = w.heap.size + 1 := h; omega) (by have := hb2.size; omega))
  have hs3 : P < w3.heap.size := HP3.lt
  obtain ⟨q0, q1, q2, q3, q4, q5, q6, q7, q8, q9⟩ := HP3.loc.ten
  have k1 := HP3.frozen 1
  have HP3s : Own (w3.setCell ⟨P, 1, none⟩ (.string X.1)) P 48 #[.int .i64 (N : Int), .string X.1, .slice none 0 0, .slice none 0 0, .int .i64 0, .string noS, .slice none 0 0, .slice none 0 0, .string noS, .string noS] := HP3.set 1 _
  have HO3s := HO3.other (p := ⟨P, 1, none⟩) (by show w.heap.size ≠ P; omega) (.string X.1)
  have HD3s := hd.other (a := ⟨P, 1, none⟩) (by show w.heap.size + 1 < P; omega) (.string X.1)
  have hb3s : Below w.heap.size w (w3.setCell ⟨P, 1, none⟩ (.string X.1)) := stores_below (b := P) (by omega) [.string X.1] _ 1 hb3
  have hz3 : (w3.setCell ⟨P, 1, none⟩ (.string X.1)).heap.size = w3.heap.size := stores_sizeR P [.string X.1] w3 1
  clear hd ht HP2 HO2 HD2 hb2 HXa' HP3 HO3 hb3
  go_wp2_with fail
  clear q0 q1 q2 q3 q4 q5 q6 q7 q8 q9 k1
  generalize w3.setCell ⟨P, 1, none⟩ (.string X.1) = u3 at HP3s HO3s HD3s hb3s hz3 ⊢
  have hcX : X.2 ≤ 1100000 := by omega
  have HVa := HV0.out u3 X.2 HD3s (by omega)
  generalize spR l X.2 = AA at HVa HSD hr1 hr2
  refine HVa.mono ?_
  rintro e w4 ⟨v4, rfl, hg4, hd, ht⟩
  obtain ⟨a4, n4, c4, rfl, hg4⟩ := hg4.lit2
  have HP4 := HP3s.turned ht (by show ¬ (P = w.heap.size + 1); omega)
  have HO4 := HO3s.turned ht (by show ¬ (w.heap.size = w.heap.size + 1); omega)
  have hb4 : Below w.heap.size w w4 := hb3s.trans (ht.toBelow (fun c h => by have h : c = w.heap.size + 1 := h; omega) (by have := hb3s.size; omega))
  have hs4 : u3.heap.size ≤ w4.heap.size := ht.size
  obtain ⟨q0, q1, q2, q3, q4, q5, q6, q7, q8, q9⟩ := HP4.loc.ten
  have k2 := HP4.frozen 2
  have HL4 : Hid (∀ g, (Value.slice a4 n4 c4).ownBlock = some g → g < w4.heap.size) := hg4.lt
  have HG4 : Got (w4.setCell ⟨P, 2, none⟩ (.slice a4 n4 c4)) u3.heap.size 128 3 (.slice a4 n4 c4) (AA.1.map Vc.cells) := hg4.setP (p := ⟨P, 2, none⟩) (by show P < u3.heap.size; omega) _
  have HP4s : Own (w4.setCell ⟨P, 2, none⟩ (.slice a4 n4 c4)) P 48 #[.int .i64 (N : Int), .string X.1, .slice a4 n4 c4, .slice none 0 0, .int .i64 0, .string noS, .slice none 0 0, .slice none 0 0, .string noS, .string noS] := HP4.set 2 _
  have HO4s := HO4.other (p := ⟨P, 2, none⟩) (by show w.heap.size ≠ P; omega) (.slice a4 n4 c4)
  have HD4s := hd.other (a := ⟨P, 2, none⟩) (by show w.heap.size + 1 < P; omega) (.slice a4 n4 c4)
  have hb4s : Below w.heap.size w (w4.setCell ⟨P, 2, none⟩ (.slice a4 n4 c4)) := stores_below (b := P) (by omega) [.slice a4 n4 c4] _ 2 hb4
  have hz4 : (w4.setCell ⟨P, 2, none⟩ (.slice a4 n4 c4)).heap.size = w4.heap.size := stores_sizeR P [.slice a4 n4 c4] w4 2
  clear hd ht HP3s HO3s HD3s hb3s HVa HP4 HO4 hb4 hg4
  go_wp2_with fail
  clear q0 q1 q2 q3 q4 q5 q6 q7 q8 q9 k2
  generalize w4.setCell ⟨P, 2, none⟩ (.slice a4 n4 c4) = u4 at HG4 HP4s HO4s HD4s hb4s hz4 ⊢
  have HVb := HV0.out u4 AA.2 HD4s (by omega)
  generalize spR l AA.2 = BB at HVb HSD hr2
  refine HVb.mono ?_
  rintro e w5 ⟨v5, rfl, hg5, hd, ht⟩
  obtain ⟨a5, n5, c5, rfl, hg5⟩ := hg5.lit2
  have HP5 := HP4s.turned ht (by show ¬ (P = w.heap.size + 1); omega)
  have HO5 := HO4s.turned ht (by show ¬ (w.heap.size = w.heap.size + 1); omega)
  have hb5 : Below w.heap.size w w5 := hb4s.trans (ht.toBelow (fun c h => by have h : c = w.heap.size + 1 := h; omega) (by have := hb4s.size; omega))
  have hs5 : u4.heap.size ≤ w5.heap.size := ht.size
  obtain ⟨q0, q1, q2, q3, q4, q5, q6, q7, q8, q9⟩ := HP5.loc.ten
  have k3 := HP5.frozen 3
  have HL5 : Hid (∀ g, (Value.slice a5 n5 c5).ownBlock = some g → g < w5.heap.size) := hg5.lt
  have HG45 : Got (w5.setCell ⟨P, 3, none⟩ (.slice a5 n5 c5)) u3.heap.size 128 3 (.slice a4 n4 c4) (AA.1.map Vc.cells) := (HG4.turns ht fun c h => by have h : c = w.heap.size + 1 := h; omega).setP (p := ⟨P, 3, none⟩) (by show P < u3.heap.size; omega) _
  have HG5 : Got (w5.setCell ⟨P, 3, none⟩ (.slice a5 n5 c5)) u4.heap.size 128 3 (.slice a5 n5 c5) (BB.1.map Vc.cells) := hg5.setP (p := ⟨P, 3, none⟩) (by show P < u4.heap.size; omega) _
  have HP5s : Own (w5.setCell ⟨P, 3, none⟩ (.slice a5 n5 c5)) P 48 #[.int .i64 (N : Int), .string X.1, .slice a4 n4 c4, .slice a5 n5 c5, .int .i64 0, .string noS, .slice none 0 0, .slice none 0 0, .string noS, .string noS] := HP5.set 3 _
  have HO5s := HO5.other (p := ⟨P, 3, none⟩) (by show w.heap.size ≠ P; omega) (.slice a5 n5 c5)
  have HD5s := hd.other (a := ⟨P, 3, none⟩) (by show w.heap.size + 1 < P; omega) (.slice a5 n5 c5)
  have hb5s : Below w.heap.size w (w5.setCell ⟨P, 3, none⟩ (.slice a5 n5 c5)) := stores_below (b := P) (by omega) [.slice a5 n5 c5] _ 3 hb5
  have hz5 : (w5.setCell ⟨P, 3, none⟩ (.slice a5 n5 c5)).heap.size = w5.heap.size := stores_sizeR P [.slice a5 n5 c5] w5 3
  have hcB : BB.2 ≤ 2000000 := by omega
  have hDD := HDD.out
  clear hd ht HP4s HO4s HD4s hb4s HVb HP5 HO5 hb5 hg5 HG4 HN0 HX0 HV0 HDD
  by_cases h5 : N = 5
  · have hne : ((N : Int) == 5) = true := by simp [h5]
    obtain ⟨dd, hdd⟩ : ∃ dd, dd = (spD X.1 l BB.2).1 := ⟨_, rfl⟩
    have htb : dd.table = X.1 := by rw [hdd]; rfl
    have HDA := hDD (w5.setCell ⟨P, 3, none⟩ (.slice a5 n5 c5)) BB.2 X.1 HD5s hcB
    rw [← hdd] at HDA
    obtain ⟨dk, dtb, dcs, dks, dnm, dto⟩ := dd
    have htb : dtb = X.1 := htb
    subst htb
    have HDA' : Hid (Calls Tryz.prog 42 #[.pointer (some ⟨w.heap.size + 1, 0, none⟩), .string X.1] (w5.setCell ⟨P, 3, none⟩ (.slice a5 n5 c5)) fun e w' => DdlOut (w.heap.size + 1) (w5.setCell ⟨P, 3, none⟩ (.slice a5 n5 c5)) ⟨dk, X.1, dcs, dks, dnm, dto⟩ e w') := HDA
    have HSS : Hid (SS = ⟨(N : Int), X.1, AA.1, BB.1, ⟨dk, X.1, dcs, dks, dnm, dto⟩⟩) := by show _ = _; rw [HSD.out, if_pos h5, hdd]
    obtain ⟨q0, q1, q2, q3, q4, q5, q6, q7, q8, q9⟩ := HP5s.loc.ten
    clear HDA hdd HSD hDD h5
    go_wp2_with fail
    generalize hu5 : (w5.setCell ⟨P, 3, none⟩ (.slice a5 n5 c5)) = u5v at HG45 HG5 HP5s HO5s HD5s hb5s hz5 HDA' q0 q1 q2 q3 q4 q5 q6 q7 q8 q9 ⊢
    clear hu5
    refine HDA'.out.mono ?_
    rintro e w6 hout
    unfold DdlOut at hout
    simp only at hout
    obtain ⟨a6, n6, c6, a7, n7, c7, m, rfl, hg6, hg7, hl6, hm1, hm2, ht⟩ := hout
    have HP6 := HP5s.turned ht (by show ¬ (P = w.heap.size + 1); omega)
    have HO6 := HO5s.turned ht (by show ¬ (w.heap.size = w.heap.size + 1); omega)
    have HG46 := HG45.turns ht fun c h => by have h : c = w.heap.size + 1 := h; omega
    have HG56 := HG5.turns ht fun c h => by have h : c = w.heap.size + 1 := h; omega
    have hb6 : Below w.heap.size w w6 := hb5s.trans (ht.toBelow (fun c h => by have h : c = w.heap.size + 1 := h; omega) (by have := hb5s.size; omega))
    have HL6 : Hid (∀ g, (Value.slice a6 n6 c6).ownBlock = some g → g < m) := hl6
    have HL7 : Hid (∀ g, (Value.slice a7 n7 c7).ownBlock = some g → g < w6.heap.size) := hg7.lt
    have hs6 := ht.size
    obtain ⟨q0, q1, q2, q3, q4, q5, q6, q7, q8, q9⟩ := HP6.loc.ten
    have j4 := HP6.frozen 4
    have j5 := HP6.frozen 5
    have j6 := HP6.frozen 6
    have j7 := HP6.frozen 7
    have j8 := HP6.frozen 8
    have j9 := HP6.frozen 9
    have HPW : Own (stores w6 P 4 [.int .i64 dk, .string X.1, .slice a6 n6 c6, .slice a7 n7 c7, .string dnm, .string dto]) P 48 #[.int .i64 (N : Int), .string X.1, .slice a4 n4 c4, .slice a5 n5 c5, .int .i64 dk, .string X.1, .slice a6 n6 c6, .slice a7 n7 c7, .string dnm, .string dto] := own_stores [.int .i64 dk, .string X.1, .slice a6 n6 c6, .slice a7 n7 c7, .string dnm, .string dto] [.int .i64 (N : Int), .string X.1, .slice a4 n4 c4, .slice a5 n5 c5] [.int .i64 0, .string noS, .slice none 0 0, .slice none 0 0, .string noS, .string noS] w6 rfl HP6
    have HOW : Own (stores w6 P 4 [.int .i64 dk, .string X.1, .slice a6 n6 c6, .slice a7 n7 c7, .string dnm, .string dto]) w.heap.size 48 #[.int .i64 0, .string noS, .slice none 0 0, .slice none 0 0, .int .i64 0, .string noS, .slice none 0 0, .slice none 0 0, .string noS, .string noS] := Own.past (by omega) [.int .i64 dk, .string X.1, .slice a6 n6 c6, .slice a7 n7 c7, .string dnm, .string dto] w6 4 HO6
    have hbW : Below w.heap.size w (stores w6 P 4 [.int .i64 dk, .string X.1, .slice a6 n6 c6, .slice a7 n7 c7, .string dnm, .string dto]) := stores_below (b := P) (by omega) _ _ _ hb6
    have hzW : (stores w6 P 4 [.int .i64 dk, .string X.1, .slice a6 n6 c6, .slice a7 n7 c7, .string dnm, .string dto]).heap.size = w6.heap.size := stores_sizeR _ _ _ _
    obtain ⟨E, hES, e2, e3, _, e5⟩ := Est.make (w := stores w6 P 4 [.int .i64 dk, .string X.1, .slice a6 n6 c6, .slice a7 n7 c7, .string dnm, .string dto]) (s := ⟨(N : Int), X.1, AA.1, BB.1, ⟨dk, X.1, dcs, dks, dnm, dto⟩⟩) (b0 := u3.heap.size) (b1 := u4.heap.size) (b2 := u5v.heap.size) (b3 := m) (b4 := w6.heap.size) (Got.many (by omega) _ _ _ HG46) (Got.many (by omega) _ _ _ HG56) (Got.many (by omega) _ _ _ hg6) (Got.many (by omega) _ _ _ hg7) (by rw [← HSS.out]; exact HFIT.out.2) (fun g h => by have := HL4.out g h; omega) (fun g h => by have := HL5.out g h; omega) HL6.out HL7.out (by omega) (by omega) hm1 hm2 (by omega)
    have hgood := e5
    have hcl : E.cells = #[.int .i64 (N : Int), .string X.1, .slice a4 n4 c4, .slice a5 n5 c5, .int .i64 dk, .string X.1, .slice a6 n6 c6, .slice a7 n7 c7, .string dnm, .string dto] := by rw [e2]
    rw [← HSS.out] at hES
    have hlo : w.heap.size < E.lo := by omega
    clear HG46 HG56 hg6 hg7 HP6 HO6 hb6 hl6 hm1 hm2 ht HDA' HG45 HG5 HP5s HO5s HD5s hb5s e2 e5 HL4 HL5 HL6 HL7 HSS
    simp only [stores, Nat.reduceAdd] at HPW HOW hbW hzW hgood
    obtain ⟨r0, r1, r2, r3, r4, r5, r6, r7, r8, r9⟩ := HPW.loc.ten
    go_wp2_with fail
    clear q0 q1 q2 q3 q4 q5 q6 q7 q8 q9 j4 j5 j6 j7 j8 j9 r0 r1 r2 r3 r4 r5 r6 r7 r8 r9
    generalize ((((((w6.setCell ⟨P, 4, none⟩ (.int .i64 dk)).setCell ⟨P, 5, none⟩ (.string X.1)).setCell ⟨P, 6, none⟩ (.slice a6 n6 c6)).setCell ⟨P, 7, none⟩ (.slice a7 n7 c7)).setCell ⟨P, 8, none⟩ (.string dnm)).setCell ⟨P, 9, none⟩ (.string dto)) = W at HPW HOW hbW hzW hgood ⊢
    have hst : StmtV W #[.int .i64 (N : Int), .string X.1, .slice a4 n4 c4, .slice a5 n5 c5, .int .i64 dk, .string X.1, .slice a6 n6 c6, .slice a7 n7 c7, .string dnm, .string dto] SS := by
      have h := hgood.stmt
      rw [hES, hcl] at h
      exact h
    obtain ⟨p0, p1, p2, p3, p4, p5, p6, p7, p8, p9⟩ := HPW.loc.ten
    have HGE : Hid (E.Good W) := hgood
    have HPP : Hid (Own W P 48 #[.int .i64 (N : Int), .string X.1, .slice a4 n4 c4, .slice a5 n5 c5, .int .i64 dk, .string X.1, .slice a6 n6 c6, .slice a7 n7 c7, .string dnm, .string dto]) := HPW
    have HST : Hid (StmtV W #[.int .i64 (N : Int), .string X.1, .slice a4 n4 c4, .slice a5 n5 c5, .int .i64 dk, .string X.1, .slice a6 n6 c6, .slice a7 n7 c7, .string dnm, .string dto] SS) := hst
    have HCL : Hid (E.cells = #[.int .i64 (N : Int), .string X.1, .slice a4 n4 c4, .slice a5 n5 c5, .int .i64 dk, .string X.1, .slice a6 n6 c6, .slice a7 n7 c7, .string dnm, .string dto]) := hcl
    clear hgood HPW hst hcl
    obtain ⟨qr, Lr, hqr⟩ : ∃ (q : Bool) (L : List UInt8), (q = true ∧ SS.right ∧ L = stmtL SS) ∨ (q = false ∧ ¬ SS.right ∧ L = []) := by
      by_cases h : SS.right
      · exact ⟨true, _, Or.inl ⟨rfl, h, rfl⟩⟩
      · exact ⟨false, _, Or.inr ⟨rfl, h, rfl⟩⟩
    skip
    refine (stmtBytes_spec #[.int .i64 (N : Int), .string X.1, .slice a4 n4 c4, .slice a5 n5 c5, .int .i64 dk, .string X.1, .slice a6 n6 c6, .slice a7 n7 c7, .string dnm, .string dto] SS W HST.out HFIT.out.1 qr Lr hqr).mono ?_
    rintro e w9 ⟨v9, rfl, b9, hg9⟩
    have HP9 := HPP.out.on b9
    have HO9 := HOW.on b9
    have HE9 : Hid (E.Good w9) := HGE.out.on b9
    have hb9 : Below w.heap.size w w9 := ch_trans hbW b9
    have hs9 : W.heap.size ≤ w9.heap.size := b9.size
    obtain ⟨a9, n9, c9, rfl, hg9⟩ := hg9.lit2
    clear p0 p1 p2 p3 p4 p5 p6 p7 p8 p9 b9 HOW HGE HST HPP
    obtain ⟨d0, d1, d2, d3, d4, d5, d6, d7, d8, d9⟩ := HO9.loc.ten
    have k0 := HO9.frozen 0
    have k1 := HO9.frozen 1
    have k2 := HO9.frozen 2
    have k3 := HO9.frozen 3
    have k4 := HO9.frozen 4
    have k5 := HO9.frozen 5
    have k6 := HO9.frozen 6
    have k7 := HO9.frozen 7
    have k8 := HO9.frozen 8
    have k9 := HO9.frozen 9
    have HFAIL : Hid (∃ E0 : Est, E0.cells = #[.int .i64 0, .string noS, .slice none 0 0, .slice none 0 0, .int .i64 0, .string noS, .slice none 0 0, .slice none 0 0, .string noS, .string noS] ∧ E0.s = Sc.zero ∧ Below w.heap.size w (stores w9 w.heap.size 0 [.int .i64 0, .string noS, .slice none 0 0, .slice none 0 0, .int .i64 0, .string noS, .slice none 0 0, .slice none 0 0, .string noS, .string noS]) ∧ w.heap.size ≤ E0.lo ∧ E0.Good (stores w9 w.heap.size 0 [.int .i64 0, .string noS, .slice none 0 0, .slice none 0 0, .int .i64 0, .string noS, .slice none 0 0, .slice none 0 0, .string noS, .string noS]) ∧ Own (stores w9 w.heap.size 0 [.int .i64 0, .string noS, .slice none 0 0, .slice none 0 0, .int .i64 0, .string noS, .slice none 0 0, .slice none 0 0, .string noS, .string noS]) w.heap.size 48 #[.int .i64 0, .string noS, .slice none 0 0, .slice none 0 0, .int .i64 0, .string noS, .slice none 0 0, .slice none 0 0, .string noS, .string noS]) := by
      obtain ⟨E0, z1, z2, z3, z4⟩ := Est.nothing w9
      exact ⟨E0, z2, z1, stores_below (Nat.le_refl _) _ _ _ hb9, by rw [z3]; omega, z4.many (by rw [z3]; omega) _ _, HO9.fill (old := [_, _, _, _, _, _, _, _, _, _]) [.int .i64 0, .string noS, .slice none 0 0, .slice none 0 0, .int .i64 0, .string noS, .slice none 0 0, .slice none 0 0, .string noS, .string noS] rfl⟩
    rcases hqr with ⟨rfl, hok, rfl⟩ | ⟨rfl, hok, rfl⟩
    rotate_left
    · have HI : Hid (isStmt l Sc.zero false) := Or.inr ⟨rfl, fun u h1 h2 => by
        have e := HU.out u h1 h2
        subst e
        exact hok h1, rfl⟩
      obtain ⟨E0, z1, z2, hB, hlo0, hG0, hQ⟩ := HFAIL.out
      have HGd : Hid (E0.Good _) := hG0
      have HBd : Hid _ := hB
      clear hG0 hB HFAIL HO9 hg9 hok HU
      simp only [stores, Nat.reduceAdd] at hQ HBd HGd
      go_wp2
      generalize ((((((((((w9.setCell ⟨w.heap.size, 0, none⟩ (.int .i64 0)).setCell ⟨w.heap.size, 1, none⟩ (.string noS)).setCell ⟨w.heap.size, 2, none⟩ (.slice none 0 0)).setCell ⟨w.heap.size, 3, none⟩ (.slice none 0 0)).setCell ⟨w.heap.size, 4, none⟩ (.int .i64 0)).setCell ⟨w.heap.size, 5, none⟩ (.string noS)).setCell ⟨w.heap.size, 6, none⟩ (.slice none 0 0)).setCell ⟨w.heap.size, 7, none⟩ (.slice none 0 0)).setCell ⟨w.heap.size, 8, none⟩ (.string noS)).setCell ⟨w.heap.size, 9, none⟩ (.string noS)) = V at hQ HBd HGd ⊢
      obtain ⟨e0, e1, e2, e3, e4, e5, e6, e7, e8, e9⟩ := hQ.loc.ten
      exact bodyPost_ret (v := .tuple #[.agg #[.int .i64 0, .string noS, .slice none 0 0, .slice none 0 0, .int .i64 0, .string noS, .slice none 0 0, .slice none 0 0, .string noS, .string noS], .bool false]) (by simp [results, Tryz.results15, go_sem, e0, e1, e2, e3, e4, e5, e6, e7, e8, e9]) rfl ⟨E0, false, by rw [z1], by rw [z2]; exact HI.out, hlo0, HGd.out, HBd.out⟩
    · obtain ⟨bb, bo, bc, e2, hr2⟩ := hg9.someV (by simp [stmtL])
      cases e2
      have hcv := fun k : Nat => conv_back (w9.drewN k) bb bo c9 (stmtL SS) (hr2.on (below_draws _ (Below.refl _ _)))
      have hr3 : RowAt w9 (some ⟨b, off, none⟩) 1 (l.map byX) := HR.out.on hb9
      have hcv2 := fun k : Nat => conv_back (w9.drewN k) b off cap l (hr3.on (below_draws _ (Below.refl _ _)))
      have hcv3 := conv_back w9 bb bo c9 (stmtL SS) hr2
      have hcv4 := conv_back w9 b off cap l hr3
      have HOK : Hid SS.right := hok
      clear hg9 hr2 hok hr3
      by_cases heq : stmtL SS = l
      · have HI : Hid (isStmt l SS true) := Or.inl ⟨rfl, HOK.out, heq⟩
        have hq : (stmtL SS == l) = true := by simp [heq]
        obtain ⟨p0, p1, p2, p3, p4, p5, p6, p7, p8, p9⟩ := HP9.loc.ten
        have hQ : Own (stores w9 w.heap.size 0 [.int .i64 (N : Int), .string X.1, .slice a4 n4 c4, .slice a5 n5 c5, .int .i64 dk, .string X.1, .slice a6 n6 c6, .slice a7 n7 c7, .string dnm, .string dto]) w.heap.size 48 #[.int .i64 (N : Int), .string X.1, .slice a4 n4 c4, .slice a5 n5 c5, .int .i64 dk, .string X.1, .slice a6 n6 c6, .slice a7 n7 c7, .string dnm, .string dto] := HO9.fill (old := [_, _, _, _, _, _, _, _, _, _]) [.int .i64 (N : Int), .string X.1, .slice a4 n4 c4, .slice a5 n5 c5, .int .i64 dk, .string X.1, .slice a6 n6 c6, .slice a7 n7 c7, .string dnm, .string dto] rfl
        have HGd : Hid (E.Good (stores w9 w.heap.size 0 [.int .i64 (N : Int), .string X.1, .slice a4 n4 c4, .slice a5 n5 c5, .int .i64 dk, .string X.1, .slice a6 n6 c6, .slice a7 n7 c7, .string dnm, .string dto])) := HE9.out.many (by omega) _ _
        have HBd : Hid (Below w.heap.size w (stores w9 w.heap.size 0 [.int .i64 (N : Int), .string X.1, .slice a4 n4 c4, .slice a5 n5 c5, .int .i64 dk, .string X.1, .slice a6 n6 c6, .slice a7 n7 c7, .string dnm, .string dto])) := stores_below (Nat.le_refl _) _ _ _ hb9
        clear HFAIL HO9 HP9 HU HE9 heq HOK
        simp only [stores, Nat.reduceAdd] at hQ HBd HGd
        go_wp2
        generalize ((((((((((w9.setCell ⟨w.heap.size, 0, none⟩ (.int .i64 (N : Int))).setCell ⟨w.heap.size, 1, none⟩ (.string X.1)).setCell ⟨w.heap.size, 2, none⟩ (.slice a4 n4 c4)).setCell ⟨w.heap.size, 3, none⟩ (.slice a5 n5 c5)).setCell ⟨w.heap.size, 4, none⟩ (.int .i64 dk)).setCell ⟨w.heap.size, 5, none⟩ (.string X.1)).setCell ⟨w.heap.size, 6, none⟩ (.slice a6 n6 c6)).setCell ⟨w.heap.size, 7, none⟩ (.slice a7 n7 c7)).setCell ⟨w.heap.size, 8, none⟩ (.string dnm)).setCell ⟨w.heap.size, 9, none⟩ (.string dto)) = V at hQ HBd HGd ⊢
        obtain ⟨e0, e1, e2, e3, e4, e5, e6, e7, e8, e9⟩ := hQ.loc.ten
        exact bodyPost_ret (v := .tuple #[.agg #[.int .i64 (N : Int), .string X.1, .slice a4 n4 c4, .slice a5 n5 c5, .int .i64 dk, .string X.1, .slice a6 n6 c6, .slice a7 n7 c7, .string dnm, .string dto], .bool true]) (by simp [results, Tryz.results15, go_sem, e0, e1, e2, e3, e4, e5, e6, e7, e8, e9]) rfl ⟨E, true, by rw [HCL.out], by rw [hES]; exact HI.out, by omega, HGd.out, HBd.out⟩
      · have HI : Hid (isStmt l Sc.zero false) := Or.inr ⟨rfl, fun u h1 h2 => by
          have e := HU.out u h1 h2
          subst e
          exact heq h2, rfl⟩
        have hq : (stmtL SS == l) = false := by simp [heq]
        obtain ⟨E0, z1, z2, hB, hlo0, hG0, hQ⟩ := HFAIL.out
        have HGd : Hid (E0.Good _) := hG0
        have HBd : Hid _ := hB
        clear hG0 hB HFAIL HO9 HP9 HU HE9 heq HOK
        simp only [stores, Nat.reduceAdd] at hQ HBd HGd
        go_wp2
        generalize ((((((((((w9.setCell ⟨w.heap.size, 0, none⟩ (.int .i64 0)).setCell ⟨w.heap.size, 1, none⟩ (.string noS)).setCell ⟨w.heap.size, 2, none⟩ (.slice none 0 0)).setCell ⟨w.heap.size, 3, none⟩ (.slice none 0 0)).setCell ⟨w.heap.size, 4, none⟩ (.int .i64 0)).setCell ⟨w.heap.size, 5, none⟩ (.string noS)).setCell ⟨w.heap.size, 6, none⟩ (.slice none 0 0)).setCell ⟨w.heap.size, 7, none⟩ (.slice none 0 0)).setCell ⟨w.heap.size, 8, none⟩ (.string noS)).setCell ⟨w.heap.size, 9, none⟩ (.string noS)) = V at hQ HBd HGd ⊢
        obtain ⟨e0, e1, e2, e3, e4, e5, e6, e7, e8, e9⟩ := hQ.loc.ten
        exact bodyPost_ret (v := .tuple #[.agg #[.int .i64 0, .string noS, .slice none 0 0, .slice none 0 0, .int .i64 0, .string noS, .slice none 0 0, .slice none 0 0, .string noS, .string noS], .bool false]) (by simp [results, Tryz.results15, go_sem, e0, e1, e2, e3, e4, e5, e6, e7, e8, e9]) rfl ⟨E0, false, by rw [z1], by rw [z2]; exact HI.out, hlo0, HGd.out, HBd.out⟩
  · have hne : ((N : Int) == 5) = false := beq_eq_false_iff_ne.2 (by omega)
    have HSS : Hid (SS = ⟨(N : Int), X.1, AA.1, BB.1, Dc.zero⟩) := by show _ = _; rw [HSD.out, if_neg h5]
    obtain ⟨r0, r1, r2, r3, r4, r5, r6, r7, r8, r9⟩ := HP5s.loc.ten
    clear HSD hDD h5
    go_wp2_with fail
    clear r0 r1 r2 r3 r4 r5 r6 r7 r8 r9
    generalize (w5.setCell ⟨P, 3, none⟩ (.slice a5 n5 c5)) = W at HG45 HG5 HP5s HO5s HD5s hb5s hz5 ⊢
    obtain ⟨E, hES, e2, e3, _, e5⟩ := Est.make (w := W) (s := ⟨(N : Int), X.1, AA.1, BB.1, Dc.zero⟩) (b0 := u3.heap.size) (b1 := u4.heap.size) (b2 := W.heap.size) (b3 := W.heap.size) (b4 := W.heap.size) HG45 HG5 (Got.nil _ _ _ _) (Got.nil _ _ _ _) (by rw [← HSS.out]; exact HFIT.out.2) (fun g h => by have := HL4.out g h; omega) (fun g h => by have := HL5.out g h; omega) (fun g h => by cases h) (fun g h => by cases h) (by omega) (by omega) (Nat.le_refl _) (Nat.le_refl _) (Nat.le_refl _)
    have hgood := e5
    have hcl : E.cells = #[.int .i64 (N : Int), .string X.1, .slice a4 n4 c4, .slice a5 n5 c5, .int .i64 0, .string noS, .slice none 0 0, .slice none 0 0, .string noS, .string noS] := by rw [e2]
    rw [← HSS.out] at hES
    have hlo : w.heap.size < E.lo := by omega
    have HPW := HP5s
    have HOW := HO5s
    have hbW := hb5s
    clear HG45 HG5 HP5s HO5s HD5s hb5s e2 e5 HL4 HL5 HSS
    have hst : StmtV W #[.int .i64 (N : Int), .string X.1, .slice a4 n4 c4, .slice a5 n5 c5, .int .i64 0, .string noS, .slice none 0 0, .slice none 0 0, .string noS, .string noS] SS := by
      have h := hgood.stmt
      rw [hES, hcl] at h
      exact h
    obtain ⟨p0, p1, p2, p3, p4, p5, p6, p7, p8, p9⟩ := HPW.loc.ten
    have HGE : Hid (E.Good W) := hgood
    have HPP : Hid (Own W P 48 #[.int .i64 (N : Int), .string X.1, .slice a4 n4 c4, .slice a5 n5 c5, .int .i64 0, .string noS, .slice none 0 0, .slice none 0 0, .string noS, .string noS]) := HPW
    have HST : Hid (StmtV W #[.int .i64 (N : Int), .string X.1, .slice a4 n4 c4, .slice a5 n5 c5, .int .i64 0, .string noS, .slice none 0 0, .slice none 0 0, .string noS, .string noS] SS) := hst
    have HCL : Hid (E.cells = #[.int .i64 (N : Int), .string X.1, .slice a4 n4 c4, .slice a5 n5 c5, .int .i64 0, .string noS, .slice none 0 0, .slice none 0 0, .string noS, .string noS]) := hcl
    clear hgood HPW hst hcl
    obtain ⟨qr, Lr, hqr⟩ : ∃ (q : Bool) (L : List UInt8), (q = true ∧ SS.right ∧ L = stmtL SS) ∨ (q = false ∧ ¬ SS.right ∧ L = []) := by
      by_cases h : SS.right
      · exact ⟨true, _, Or.inl ⟨rfl, h, rfl⟩⟩
      · exact ⟨false, _, Or.inr ⟨rfl, h, rfl⟩⟩
    skip
    refine (stmtBytes_spec #[.int .i64 (N : Int), .string X.1, .slice a4 n4 c4, .slice a5 n5 c5, .int .i64 0, .string noS, .slice none 0 0, .slice none 0 0, .string noS, .string noS] SS W HST.out HFIT.out.1 qr Lr hqr).mono ?_
    rintro e w9 ⟨v9, rfl, b9, hg9⟩
    have HP9 := HPP.out.on b9
    have HO9 := HOW.on b9
    have HE9 : Hid (E.Good w9) := HGE.out.on b9
    have hb9 : Below w.heap.size w w9 := ch_trans hbW b9
    have hs9 : W.heap.size ≤ w9.heap.size := b9.size
    obtain ⟨a9, n9, c9, rfl, hg9⟩ := hg9.lit2
    clear p0 p1 p2 p3 p4 p5 p6 p7 p8 p9 b9 HOW HGE HST HPP
    obtain ⟨d0, d1, d2, d3, d4, d5, d6, d7, d8, d9⟩ := HO9.loc.ten
    have k0 := HO9.frozen 0
    have k1 := HO9.frozen 1
    have k2 := HO9.frozen 2
    have k3 := HO9.frozen 3
    have k4 := HO9.frozen 4
    have k5 := HO9.frozen 5
    have k6 := HO9.frozen 6
    have k7 := HO9.frozen 7
    have k8 := HO9.frozen 8
    have k9 := HO9.frozen 9
    have HFAIL : Hid (∃ E0 : Est, E0.cells = #[.int .i64 0, .string noS, .slice none 0 0, .slice none 0 0, .int .i64 0, .string noS, .slice none 0 0, .slice none 0 0, .string noS, .string noS] ∧ E0.s = Sc.zero ∧ Below w.heap.size w (stores w9 w.heap.size 0 [.int .i64 0, .string noS, .slice none 0 0, .slice none 0 0, .int .i64 0, .string noS, .slice none 0 0, .slice none 0 0, .string noS, .string noS]) ∧ w.heap.size ≤ E0.lo ∧ E0.Good (stores w9 w.heap.size 0 [.int .i64 0, .string noS, .slice none 0 0, .slice none 0 0, .int .i64 0, .string noS, .slice none 0 0, .slice none 0 0, .string noS, .string noS]) ∧ Own (stores w9 w.heap.size 0 [.int .i64 0, .string noS, .slice none 0 0, .slice none 0 0, .int .i64 0, .string noS, .slice none 0 0, .slice none 0 0, .string noS, .string noS]) w.heap.size 48 #[.int .i64 0, .string noS, .slice none 0 0, .slice none 0 0, .int .i64 0, .string noS, .slice none 0 0, .slice none 0 0, .string noS, .string noS]) := by
      obtain ⟨E0, z1, z2, z3, z4⟩ := Est.nothing w9
      exact ⟨E0, z2, z1, stores_below (Nat.le_refl _) _ _ _ hb9, by rw [z3]; omega, z4.many (by rw [z3]; omega) _ _, HO9.fill (old := [_, _, _, _, _, _, _, _, _, _]) [.int .i64 0, .string noS, .slice none 0 0, .slice none 0 0, .int .i64 0, .string noS, .slice none 0 0, .slice none 0 0, .string noS, .string noS] rfl⟩
    rcases hqr with ⟨rfl, hok, rfl⟩ | ⟨rfl, hok, rfl⟩
    rotate_left
    · have HI : Hid (isStmt l Sc.zero false) := Or.inr ⟨rfl, fun u h1 h2 => by
        have e := HU.out u h1 h2
        subst e
        exact hok h1, rfl⟩
      obtain ⟨E0, z1, z2, hB, hlo0, hG0, hQ⟩ := HFAIL.out
      have HGd : Hid (E0.Good _) := hG0
      have HBd : Hid _ := hB
      clear hG0 hB HFAIL HO9 hg9 hok HU
      simp only [stores, Nat.reduceAdd] at hQ HBd HGd
      go_wp2
      generalize ((((((((((w9.setCell ⟨w.heap.size, 0, none⟩ (.int .i64 0)).setCell ⟨w.heap.size, 1, none⟩ (.string noS)).setCell ⟨w.heap.size, 2, none⟩ (.slice none 0 0)).setCell ⟨w.heap.size, 3, none⟩ (.slice none 0 0)).setCell ⟨w.heap.size, 4, none⟩ (.int .i64 0)).setCell ⟨w.heap.size, 5, none⟩ (.string noS)).setCell ⟨w.heap.size, 6, none⟩ (.slice none 0 0)).setCell ⟨w.heap.size, 7, none⟩ (.slice none 0 0)).setCell ⟨w.heap.size, 8, none⟩ (.string noS)).setCell ⟨w.heap.size, 9, none⟩ (.string noS)) = V at hQ HBd HGd ⊢
      obtain ⟨e0, e1, e2, e3, e4, e5, e6, e7, e8, e9⟩ := hQ.loc.ten
      exact bodyPost_ret (v := .tuple #[.agg #[.int .i64 0, .string noS, .slice none 0 0, .slice none 0 0, .int .i64 0, .string noS, .slice none 0 0, .slice none 0 0, .string noS, .string noS], .bool false]) (by simp [results, Tryz.results15, go_sem, e0, e1, e2, e3, e4, e5, e6, e7, e8, e9]) rfl ⟨E0, false, by rw [z1], by rw [z2]; exact HI.out, hlo0, HGd.out, HBd.out⟩
    · obtain ⟨bb, bo, bc, e2, hr2⟩ := hg9.someV (by simp [stmtL])
      cases e2
      have hcv := fun k : Nat => conv_back (w9.drewN k) bb bo c9 (stmtL SS) (hr2.on (below_draws _ (Below.refl _ _)))
      have hr3 : RowAt w9 (some ⟨b, off, none⟩) 1 (l.map byX) := HR.out.on hb9
      have hcv2 := fun k : Nat => conv_back (w9.drewN k) b off cap l (hr3.on (below_draws _ (Below.refl _ _)))
      have hcv3 := conv_back w9 bb bo c9 (stmtL SS) hr2
      have hcv4 := conv_back w9 b off cap l hr3
      have HOK : Hid SS.right := hok
      clear hg9 hr2 hok hr3
      by_cases heq : stmtL SS = l
      · have HI : Hid (isStmt l SS true) := Or.inl ⟨rfl, HOK.out, heq⟩
        have hq : (stmtL SS == l) = true := by simp [heq]
        obtain ⟨p0, p1, p2, p3, p4, p5, p6, p7, p8, p9⟩ := HP9.loc.ten
        have hQ : Own (stores w9 w.heap.size 0 [.int .i64 (N : Int), .string X.1, .slice a4 n4 c4, .slice a5 n5 c5, .int .i64 0, .string noS, .slice none 0 0, .slice none 0 0, .string noS, .string noS]) w.heap.size 48 #[.int .i64 (N : Int), .string X.1, .slice a4 n4 c4, .slice a5 n5 c5, .int .i64 0, .string noS, .slice none 0 0, .slice none 0 0, .string noS, .string noS] := HO9.fill (old := [_, _, _, _, _, _, _, _, _, _]) [.int .i64 (N : Int), .string X.1, .slice a4 n4 c4, .slice a5 n5 c5, .int .i64 0, .string noS, .slice none 0 0, .slice none 0 0, .string noS, .string noS] rfl
        have HGd : Hid (E.Good (stores w9 w.heap.size 0 [.int .i64 (N : Int), .string X.1, .slice a4 n4 c4, .slice a5 n5 c5, .int .i64 0, .string noS, .slice none 0 0, .slice none 0 0, .string noS, .string noS])) := HE9.out.many (by omega) _ _
        have HBd : Hid (Below w.heap.size w (stores w9 w.heap.size 0 [.int .i64 (N : Int), .string X.1, .slice a4 n4 c4, .slice a5 n5 c5, .int .i64 0, .string noS, .slice none 0 0, .slice none 0 0, .string noS, .string noS])) := stores_below (Nat.le_refl _) _ _ _ hb9
        clear HFAIL HO9 HP9 HU HE9 heq HOK
        simp only [stores, Nat.reduceAdd] at hQ HBd HGd
        go_wp2
        generalize ((((((((((w9.setCell ⟨w.heap.size, 0, none⟩ (.int .i64 (N : Int))).setCell ⟨w.heap.size, 1, none⟩ (.string X.1)).setCell ⟨w.heap.size, 2, none⟩ (.slice a4 n4 c4)).setCell ⟨w.heap.size, 3, none⟩ (.slice a5 n5 c5)).setCell ⟨w.heap.size, 4, none⟩ (.int .i64 0)).setCell ⟨w.heap.size, 5, none⟩ (.string noS)).setCell ⟨w.heap.size, 6, none⟩ (.slice none 0 0)).setCell ⟨w.heap.size, 7, none⟩ (.slice none 0 0)).setCell ⟨w.heap.size, 8, none⟩ (.string noS)).setCell ⟨w.heap.size, 9, none⟩ (.string noS)) = V at hQ HBd HGd ⊢
        obtain ⟨e0, e1, e2, e3, e4, e5, e6, e7, e8, e9⟩ := hQ.loc.ten
        exact bodyPost_ret (v := .tuple #[.agg #[.int .i64 (N : Int), .string X.1, .slice a4 n4 c4, .slice a5 n5 c5, .int .i64 0, .string noS, .slice none 0 0, .slice none 0 0, .string noS, .string noS], .bool true]) (by simp [results, Tryz.results15, go_sem, e0, e1, e2, e3, e4, e5, e6, e7, e8, e9]) rfl ⟨E, true, by rw [HCL.out], by rw [hES]; exact HI.out, by omega, HGd.out, HBd.out⟩
      · have HI : Hid (isStmt l Sc.zero false) := Or.inr ⟨rfl, fun u h1 h2 => by
          have e := HU.out u h1 h2
          subst e
          exact heq h2, rfl⟩
        have hq : (stmtL SS == l) = false := by simp [heq]
        obtain ⟨E0, z1, z2, hB, hlo0, hG0, hQ⟩ := HFAIL.out
        have HGd : Hid (E0.Good _) := hG0
        have HBd : Hid _ := hB
        clear hG0 hB HFAIL HO9 HP9 HU HE9 heq HOK
        simp only [stores, Nat.reduceAdd] at hQ HBd HGd
        go_wp2
        generalize ((((((((((w9.setCell ⟨w.heap.size, 0, none⟩ (.int .i64 0)).setCell ⟨w.heap.size, 1, none⟩ (.string noS)).setCell ⟨w.heap.size, 2, none⟩ (.slice none 0 0)).setCell ⟨w.heap.size, 3, none⟩ (.slice none 0 0)).setCell ⟨w.heap.size, 4, none⟩ (.int .i64 0)).setCell ⟨w.heap.size, 5, none⟩ (.string noS)).setCell ⟨w.heap.size, 6, none⟩ (.slice none 0 0)).setCell ⟨w.heap.size, 7, none⟩ (.slice none 0 0)).setCell ⟨w.heap.size, 8, none⟩ (.string noS)).setCell ⟨w.heap.size, 9, none⟩ (.string noS)) = V at hQ HBd HGd ⊢
        obtain ⟨e0, e1, e2, e3, e4, e5, e6, e7, e8, e9⟩ := hQ.loc.ten
        exact bodyPost_ret (v := .tuple #[.agg #[.int .i64 0, .string noS, .slice none 0 0, .slice none 0 0, .int .i64 0, .string noS, .slice none 0 0, .slice none 0 0, .string noS, .string noS], .bool false]) (by simp [results, Tryz.results15, go_sem, e0, e1, e2, e3, e4, e5, e6, e7, e8, e9]) rfl ⟨E0, false, by rw [z1], by rw [z2]; exact HI.out, hlo0, HGd.out, HBd.out⟩
end Go.Proofs.YtiijahoheajppaaGreat

namespace Go.Proofs.YtiijahoheajppaaGreat
open Go.ChangeShapes Go.WideShapes Go.ChangeAt Go.RowKit

set_option maxRecDepth 100000 in
set_option maxHeartbeats 1000000 in
/-- spec.l09Put -/
theorem l09Put_any (v : Value) (B : Nat) (l : List UInt8) (o : Option Addr) (q : Nat) (ks : List ByteArray) (w : World) (hg : Got w B 5 1 v (l.map byX)) (hk : ∀ u, Below B w u → RowAt u o 1 (ks.map strX)) (hk8 : ks.length ≤ 8) (hks : ∀ s ∈ ks, okWord s) (hl : l.length ≤ 200000) (hB : B ≤ w.heap.size) :
    Calls Tryz.prog 32 #[v, .slice o ks.length q] w fun e w' => ∃ v', e = .returned v' ∧ Gb B w w' ∧ Got w' B 5 1 v' ((l ++ wordsL ks).map byX) := by
  obtain ⟨av, n, c, rfl, hg⟩ := hg.lit2
  have HG : Hid (Got w B 5 1 (.slice av n c) (l.map byX)) := hg
  have HK : Hid (∀ u, Below B w u → RowAt u o 1 (ks.map strX)) := hk
  have HKS : Hid (∀ s ∈ ks, okWord s) := hks
  have hkl := flat_words hks
  have HT0 : Hid (l ++ wordsL ks = l ++ [UInt8.ofNat ks.length] ++ ks.flatMap textL) := by
    show _ = _
    simp [wordsL]
  generalize l ++ wordsL ks = Z at HT0 ⊢
  have hk8' : (ks.length : Int) ≤ 8 := by omega
  clear hg hk hks
  go_enter Tryz.func32, Tryz.ntmps32
  go_wp2_with (at_builtin; refine app_lotT rfl (.tmp 7) (.tmp 11) rfl Tryz.underlying26 infoByte rfl (by decide) (by decide) B _ _ rfl (HG.out.on (ch_alloc (Below.refl _ _) (.cells #[.int .u8 (ks.length : Int)] 5))) w.heap.size 0 1 ([UInt8.ofNat ks.length].map byX) 1 (by simp) rfl (bytes_row1 (u8_nat (by omega)) (Own.new w _ _)) (byte_one _) (by simp; omega) (by simp; omega) ?_; intro v1 w1 hg1 hb1 ht1; have HB1 : Hid (Gb B w w1) := (Gb.new (ch_alloc (Below.refl _ _) (.cells #[.int .u8 (ks.length : Int)] 5)) hB).trans (Gb.got (HG.out.on (ch_alloc (Below.refl _ _) (.cells #[.int .u8 (ks.length : Int)] 5))) ht1 hb1); have HG1 : Hid (Got w1 B 5 1 v1 ((l ++ [UInt8.ofNat ks.length]).map byX)) := (by show Got _ _ _ _ _ _; rw [List.map_append]; exact hg1); clear hg1 hb1 ht1)
  go_loopw [0, 15] (fun bv i wr => ∃ k : Nat, k ≤ ks.length ∧ i = .int .i64 (k : Int) ∧ Hid (Gb B w wr) ∧ Hid (Got wr B 5 1 bv ((l ++ [UInt8.ofNat ks.length] ++ (ks.take k).flatMap textL).map byX))) (fun _ i _ => ks.length - (intOf i).toNat)
  case atStart => exact ⟨0, Nat.zero_le _, rfl, HB1, by
    have := HG1.out
    show Got _ _ _ _ _ _
    simpa using this⟩
  case round =>
    clear HG1 HB1
    obtain ⟨j, hj, rfl, HB5, HG5⟩ := hrel
    obtain ⟨a5, n5, e5, rfl, hg5⟩ := HG5.out.lit2
    by_cases hlt2 : j < ks.length
    · have hlti2 : (j : Int) < ks.length := by omega
      obtain ⟨b, off, rfl, s0⟩ := (HK.out _ HB5.out.1).strs j hlt2
      have hlen : (l ++ [UInt8.ofNat ks.length] ++ (ks.take j).flatMap textL).length ≤ 900000 := by
        have h1 := flat_words (ks := ks.take j) fun x hx => HKS.out x (List.mem_of_mem_take hx)
        have h2 : (ks.take j).length ≤ 1000 := by simp; omega
        simp only [List.length_append, List.length_cons, List.length_nil]; omega
      have HFL : Hid ((l ++ [UInt8.ofNat ks.length] ++ (ks.take j).flatMap textL) ++ textL ks[j] = l ++ [UInt8.ofNat ks.length] ++ (ks.take (j + 1)).flatMap textL) := by
        show _ = _
        rw [List.take_succ_eq_append_getElem hlt2, List.flatMap_append]
        simp
      have HWO : Hid (okWord ks[j]) := HKS.out _ (List.getElem_mem hlt2)
      have HG5' : Hid (Got wr B 5 1 (.slice a5 n5 e5) ((l ++ [UInt8.ofNat ks.length] ++ (ks.take j).flatMap textL).map byX)) := hg5
      have hs5 := Nat.le_trans hB HB5.out.1.size
      clear hg5 HG5
      generalize l ++ [UInt8.ofNat ks.length] ++ (ks.take j).flatMap textL = L5 at HG5' hlen HFL
      generalize ks[j] = s at s0 HFL HWO
      go_wp2_with fail
      refine (l06Word_any _ B L5 s wr HG5'.out HWO.out (by omega) hs5).mono ?_
      rintro e w6 ⟨v6, rfl, hb6, hg6⟩
      have HG6 : Hid (Got w6 B 5 1 v6 ((L5 ++ textL s).map byX)) := hg6
      have HB6 : Hid (Gb B w w6) := HB5.out.trans hb6
      clear hb6 hg6
      go_wp2
      go_round
      case rel => exact ⟨j + 1, by omega, by go_num, HB6, by
        show Got _ _ _ _ _ _
        rw [← HFL.out]; exact HG6.out⟩
      case measure => simp [intOf]; omega
    · have hlti2 : (ks.length : Int) ≤ j := by omega
      have HG6 : Hid (Got wr B 5 1 (.slice a5 n5 e5) (Z.map byX)) := by
        have h := hg5
        rw [List.take_of_length_le (by omega)] at h
        show Got _ _ _ _ _ _
        rw [HT0.out]; exact h
      clear hg5 HG5
      go_wp2
      go_ret
      exact ⟨_, rfl, HB5.out, HG6.out⟩

theorem fewW_ok {ks : List ByteArray} (h : fewW ks) : ∀ s ∈ ks, okWord s := fun s hs => by
  obtain ⟨i, hi, rfl⟩ := List.getElem_of_mem hs
  exact Or.inr (h.2 i hi)
theorem okPut_two {n : Nat} (h : n ≤ 65535) : okPut (n : Int) 2 := ⟨by omega, by omega, by omega, by show (n : Int) < ((256 ^ 2 : Nat) : Int); omega⟩
theorem okPut_three {n : Nat} (h : n ≤ 16777215) : okPut (n : Int) 3 := ⟨by omega, by omega, by omega, by show (n : Int) < ((256 ^ 3 : Nat) : Int); omega⟩
theorem got_oneB (w : World) (x : UInt8) (m : Int) (hm : (x.toNat : Int) = m) : Got (w.alloc (.cells #[.int .u8 m] 5)) w.heap.size 5 1 (.slice (some ⟨w.heap.size, 0, none⟩) 1 1) ([x].map byX) := by
  subst hm
  exact ⟨fun q hq => by simp at hq; subst hq; rfl, by simp, Or.inr ⟨w.heap.size, 1, #[.int .u8 (x.toNat : Int)], rfl, Nat.le_refl _, Own.new _ _ _, Nat.le_refl _, by unfold maxLen; omega, rfl, rfl⟩⟩

set_option maxRecDepth 100000 in
set_option maxHeartbeats 4000000 in
/-- spec.PackOf -/
theorem packOf_spec (x : Array Value) (t : Btc) (w : World) (hx : BatV w x t) (hf : t.fit) (q : Bool) (L : List UInt8) (hq : (q = true ∧ t.right ∧ L = batL t) ∨ (q = false ∧ ¬ t.right ∧ L = [])) :
    Calls Tryz.prog 7 #[.agg x] w fun e w' => ∃ v', e = .returned (.tuple #[.agg #[v'], .bool q]) ∧ Below w.heap.size w w' ∧ Got w' w.heap.size 5 1 v' (L.map byX) := by
  have hbo := fun u (hu : Below w.heap.size w u) => batchOk_spec x t u (hx.on hu) hf
  obtain ⟨a, p, rfl, hps⟩ := hx
  have HSO : Hid (∀ u : World, Below w.heap.size w u → Calls Tryz.prog 29 #[.agg #[.int .i64 t.lsn, .int .i64 t.prev, .slice a t.parts.length p]] u fun e w' => e = .returned (.bool q) ∧ Below u.heap.size u w') := fun u hu => (hbo u hu).mono fun e w' ⟨r, he, hr, hb⟩ => ⟨by
    rw [he]
    have : r = q := by
      rcases hq with ⟨rfl, h, _⟩ | ⟨rfl, h, _⟩
      · exact hr.2 h
      · cases r with
        | false => rfl
        | true => exact absurd (hr.1 rfl) h
    rw [this], hb⟩
  have HX : Hid (PartsV w (.slice a t.parts.length p) t.parts) := hps
  have HF : Hid (pfits t.parts) := hf
  have HQ := Own.at (w.alloc (.cells #[.int .i64 t.lsn, .int .i64 t.prev, .slice a t.parts.length p] 33)) 28 #[.slice none 0 0] (n := w.heap.size + 1) (by simp)
  have HV := (Own.new w 33 #[.int .i64 t.lsn, .int .i64 t.prev, .slice a t.parts.length p]).on (ch_alloc (Below.refl _ _) (.cells #[.slice none 0 0] 28))
  have hw0 : Below w.heap.size w ((w.alloc (.cells #[.int .i64 t.lsn, .int .i64 t.prev, .slice a t.parts.length p] 33)).alloc (.cells #[.slice none 0 0] 28)) := (by repeat (first | with_reducible exact Below.refl _ _ | with_reducible assumption | with_reducible refine ch_alloc ?_ _ | with_reducible refine Below.drew ?_ | with_reducible refine below_draws _ ?_ | (with_reducible refine Below.setCell ?_ ?_ _; rotate_left; focus (first | with_reducible exact Nat.le_refl _ | (simp; done) | (simp; omega) | (simp at *; omega))) | with_reducible refine ch_trans ?_ (by with_reducible assumption)))
  have hz0 : ((w.alloc (.cells #[.int .i64 t.lsn, .int .i64 t.prev, .slice a t.parts.length p] 33)).alloc (.cells #[.slice none 0 0] 28)).heap.size = w.heap.size + 1 + 1 := by simp
  clear hps hf hbo
  rcases hq with ⟨rfl, hr, rfl⟩ | ⟨rfl, hr, rfl⟩
  rotate_left
  · clear hr HX HF HV
    go_enter Tryz.func7, Tryz.ntmps7
    go_wp2_with fail
    refine (HSO.out _ hw0).mono ?_
    rintro e w1 ⟨rfl, b1⟩
    rw [hz0] at b1
    obtain ⟨d0, d1⟩ := cut_own HQ b1
    obtain ⟨k0, k1, k2⟩ := cut_end hw0 HQ b1 (Got.nil w1 _ _ _)
    have K2 : Hid (Got (w1.setCell ⟨w.heap.size + 1, 0, none⟩ (.slice none 0 0)) w.heap.size 5 1 (.slice none 0 0) _) := k2
    have K1 : Hid _ := k1
    clear k1 k2 b1 HQ hw0 HSO
    go_wp2
    generalize w1.setCell ⟨w.heap.size + 1, 0, none⟩ (.slice none 0 0) = W at k0 K1 K2 ⊢
    exact bodyPost_ret (v := .tuple #[.agg #[.slice none 0 0], .bool false]) (by simp [results, Tryz.results7, go_sem, k0]) rfl ⟨_, rfl, K1.out, K2.out⟩
  have hbl := batB_length hr
  obtain ⟨⟨hn1, hn4, hp0, hp1⟩, h60, hpr⟩ := hr
  have hprr : ∀ t' ∈ t.parts, t'.right := fun x hx => by
    obtain ⟨i, hi, rfl⟩ := List.getElem_of_mem hx
    exact hpr i hi
  have hfl := flat_part t.parts hprr
  have HPR : Hid (∀ t' ∈ t.parts, t'.right) := hprr
  have HD : Hid (batL t = batB t ++ numL (sumL (batB t)) 3) := rfl
  have HB : Hid (batB t = [80] ++ numL t.lsn.toNat 2 ++ numL t.prev.toNat 2 ++ [UInt8.ofNat t.parts.length] ++ t.parts.flatMap partL) := rfl
  clear hpr hprr
  generalize batL t = D at HD ⊢
  generalize batB t = BB at HD HB hbl
  obtain ⟨lsn, prev, ts⟩ := t
  simp only at *
  obtain ⟨N, rfl⟩ : ∃ N : Nat, lsn = (N : Int) := ⟨lsn.toNat, by omega⟩
  obtain ⟨P, rfl⟩ : ∃ P : Nat, prev = (P : Int) := ⟨prev.toNat, by omega⟩
  simp only [Int.toNat_natCast] at HB
  obtain ⟨_, _, e0, hlp, hmp, _⟩ := HX.out.lit
  cases e0
  unfold maxLen at hmp
  go_enter Tryz.func7, Tryz.ntmps7
  go_wp2_with fail
  refine (HSO.out _ hw0).mono ?_
  rintro e w1 ⟨rfl, b1⟩
  have HV1 : Hid (Own w1 w.heap.size 33 #[.int .i64 (N : Int), .int .i64 (P : Int), .slice a ts.length p]) := HV.on b1
  have HQ1 : Hid (Own w1 (w.heap.size + 1) 28 #[.slice none 0 0]) := HQ.on b1
  have hb1 : Below w.heap.size w w1 := ch_trans hw0 b1
  have hz1 : w.heap.size + 1 + 1 ≤ w1.heap.size := by rw [← hz0]; exact b1.size
  clear b1 HSO HV HQ hw0 hz0
  have hvw1 : w.heap.size < w1.heap.size := HV1.out.lt
  obtain ⟨d0, d1, d2⟩ := HV1.out.loc.three
  go_wp2_with fail
  have hpn : Calls Tryz.prog 30 #[.slice (some ⟨w1.heap.size, 0, none⟩) 1 1, .int .i64 (N : Int), .int .i64 2] (w1.alloc (.cells #[.int .u8 80] 5)) fun e w' => ∃ v', e = .returned (.tuple #[v', .bool true]) ∧ Below (w1.alloc (.cells #[.int .u8 80] 5)).heap.size (w1.alloc (.cells #[.int .u8 80] 5)) w' ∧ Got w' (w1.alloc (.cells #[.int .u8 80] 5)).heap.size 5 1 v' (([80] ++ numL N 2).map byX) := putNum_spec w1.heap.size 0 1 [80] (N : Int) 2 (w1.alloc (.cells #[.int .u8 80] 5)) (bytes_row1 rfl (Own.new w1 _ _)) (by simp) true ([80] ++ numL N 2) (Or.inl ⟨rfl, okPut_two (by omega), by simp⟩)
  refine hpn.mono ?_
  clear hpn
  rintro e w2 ⟨v2, rfl, b2, hg2⟩
  obtain ⟨a2, c2, rfl, _, _, hr2, _⟩ := hg2.row
  obtain ⟨g2, o2, rfl, hgo⟩ := hr2.bytes 0 (by simp)
  have HR2 : Hid (RowAt w2 (some ⟨g2, o2, none⟩) 1 (([80] ++ numL N 2).map byX)) := hr2
  have hb12 : Below w1.heap.size w1 w2 := ch_trans (ch_alloc (Below.refl _ _) _) b2
  have HV2 : Hid (Own w2 w.heap.size 33 #[.int .i64 (N : Int), .int .i64 (P : Int), .slice a ts.length p]) := HV1.out.on hb12
  have HQ2 : Hid (Own w2 (w.heap.size + 1) 28 #[.slice none 0 0]) := HQ1.out.on hb12
  have hb2 : Below w.heap.size w w2 := ch_trans hb1 hb12
  have hz2 : w.heap.size + 1 + 1 ≤ w2.heap.size := Nat.le_trans hz1 hb12.size
  have HL2 : Hid (([80] ++ numL N 2).length = 3) := by show _ = _; simp [numL_length]
  rw [List.length_map]
  clear hgo hg2 hr2 b2 hb12 HV1 HQ1 hb1 hz1 d0 d1 d2
  generalize [80] ++ numL N 2 = L2 at HR2 HL2 HB ⊢
  have hvw2 : w.heap.size < w2.heap.size := HV2.out.lt
  obtain ⟨d0, d1, d2⟩ := HV2.out.loc.three
  go_wp2_with fail
  refine (putNum_spec g2 o2 c2 L2 (P : Int) 2 w2 HR2.out (by have := HL2.out; omega) true (L2 ++ numL P 2) (Or.inl ⟨rfl, okPut_two (by omega), by simp⟩)).mono ?_
  rintro e w3 ⟨v3, rfl, b3, hg3⟩
  obtain ⟨a3, n3, c3, rfl, hg3⟩ := hg3.lit2
  have HG3 : Hid (Got w3 w.heap.size 5 1 (.slice a3 n3 c3) ((L2 ++ numL P 2).map byX)) := hg3.mono (by omega)
  have HV3 : Hid (Own w3 w.heap.size 33 #[.int .i64 (N : Int), .int .i64 (P : Int), .slice a ts.length p]) := HV2.out.on b3
  have HQ3 : Hid (Own w3 (w.heap.size + 1) 28 #[.slice none 0 0]) := HQ2.out.on b3
  have hb3 : Below w.heap.size w w3 := ch_trans hb2 b3
  have hz3 : w.heap.size + 1 + 1 ≤ w3.heap.size := Nat.le_trans hz2 b3.size
  have HL3 : Hid ((L2 ++ numL P 2).length = 5) := by show _ = _; simp [numL_length, HL2.out]
  have htn : (ts.length : Int) ≤ 60 := by omega
  clear hg3 b3 HV2 HQ2 hb2 hz2 HR2 d0 d1 d2
  generalize L2 ++ numL P 2 = L3 at HG3 HL3 HB
  have hvw3 : w.heap.size < w3.heap.size := HV3.out.lt
  obtain ⟨d0, d1, d2⟩ := HV3.out.loc.three
  have hba3 : Below w3.heap.size w3 (w3.alloc (.cells #[.int .u8 (ts.length : Int)] 5)) := (by repeat (first | with_reducible exact Below.refl _ _ | with_reducible assumption | with_reducible refine ch_alloc ?_ _ | with_reducible refine Below.drew ?_ | with_reducible refine below_draws _ ?_ | (with_reducible refine Below.setCell ?_ ?_ _; rotate_left; focus (first | with_reducible exact Nat.le_refl _ | (simp; done) | (simp; omega) | (simp at *; omega))) | with_reducible refine ch_trans ?_ (by with_reducible assumption)))
  go_wp2_with (at_builtin; refine app_lotT rfl (.tmp 28) (.tmp 33) rfl Tryz.underlying26 infoByte rfl (by decide) (by decide) w.heap.size _ _ rfl (HG3.out.on hba3) w3.heap.size 0 1 ([UInt8.ofNat ts.length].map byX) 1 (by simp) rfl (bytes_row1 (u8_nat (by omega)) (Own.new w3 5 #[.int .u8 (ts.length : Int)])) (byte_one _) (by have := HL3.out; simp; omega) (by simp; omega) ?_; intro v4 w4 hg4 hb4 ht4; have hq4 := (Gb.new (B := w.heap.size) hba3 (by omega)).trans (Gb.got (HG3.out.on hba3) ht4 hb4); have HB4 : Hid (Gb w.heap.size w w4) := (Gb.new (B := w.heap.size) hb3 (Nat.le_refl _)).trans hq4; have HV4 : Own w4 w.heap.size 33 #[.int .i64 (N : Int), .int .i64 (P : Int), .slice a ts.length p] := hq4.2.own HV3.out (by decide); have HQ4 : Hid (Own w4 (w.heap.size + 1) 28 #[.slice none 0 0]) := hq4.2.own HQ3.out (by decide); have HG4 : Hid (Got w4 w.heap.size 5 1 v4 ((L3 ++ [UInt8.ofNat ts.length]).map byX)) := (by show Got _ _ _ _ _ _; rw [List.map_append]; exact hg4); have hz4 : w.heap.size + 1 + 1 ≤ w4.heap.size := Nat.le_trans hz3 hq4.1.size; clear hg4 hb4 ht4 hq4 d0 d1 d2 HV3 HQ3 HG3 hz3 hb3 hba3; obtain ⟨d0, d1, d2⟩ := HV4.loc.three; clear HV4)
  have HL4 : Hid ((L3 ++ [UInt8.ofNat ts.length]).length = 6) := by show _ = _; simp [HL3.out]
  generalize L3 ++ [UInt8.ofNat ts.length] = L4 at HG4 HL4 HB
  go_loopw [4, 38] (fun bv i wr => ∃ k : Nat, k ≤ ts.length ∧ i = .int .i64 (k : Int) ∧ Hid (Gb w.heap.size w wr) ∧ Hid (Own wr (w.heap.size + 1) 28 #[.slice none 0 0]) ∧ w.heap.size + 1 + 1 ≤ wr.heap.size ∧ Hid (Got wr w.heap.size 5 1 bv ((L4 ++ (ts.take k).flatMap partL).map byX))) (fun _ i _ => ts.length - (intOf i).toNat)
  case atStart => exact ⟨0, Nat.zero_le _, rfl, HB4, HQ4, hz4, by
    have := HG4.out
    show Got _ _ _ _ _ _
    simpa using this⟩
  case round =>
    clear HG4 HB4 HQ4 d0 d1 d2 hz4
    obtain ⟨k, hk, rfl, HBr, HQr, hzr, HGr⟩ := hrel
    obtain ⟨a5, c5, rfl, _, _, hr5, _⟩ := id HGr.out.row
    have hne : 0 < (L4 ++ (ts.take k).flatMap partL).length := by have := HL4.out; rw [List.length_append]; omega
    obtain ⟨g5, o5, rfl, hgo⟩ := hr5.bytes 0 hne
    have hbr : Below w.heap.size w wr := HBr.out.1
    by_cases hlt : k < ts.length
    · have hlti : (k : Int) < ts.length := by omega
      obtain ⟨b, off, ka, kp, ra, rp, ca, cp, oa, op, ya, yp, za, zp, rfl, hx, e0, e1, e2, e3, e4, e5, e6, e7, e8, e9, e10, e11⟩ := HX.out.part k hlt
      have d0 := cell_on e0 hbr
      have d1 := cell_on e1 hbr
      have d2 := cell_on e2 hbr
      have d3 := cell_on e3 hbr
      have d4 := cell_on e4 hbr
      have d5 := cell_on e5 hbr
      have d6 := cell_on e6 hbr
      have d7 := cell_on e7 hbr
      have d8 := cell_on e8 hbr
      have d9 := cell_on e9 hbr
      have d10 := cell_on e10 hbr
      have d11 := cell_on e11 hbr
      have HRK : Hid ts[k].right := HPR.out _ (List.getElem_mem hlt)
      have HFK : Hid ts[k].fit := HF.out _ (List.getElem_mem hlt)
      have HP : Hid (∀ u, Below w.heap.size w u → StmtV u #[.int .i64 ts[k].st.kind, .string ts[k].st.table, .slice ka ts[k].st.key.length kp, .slice ra ts[k].st.row.length rp, .int .i64 ts[k].st.ddl.kind, .string ts[k].st.ddl.table, .slice ca ts[k].st.ddl.cols.length cp, .slice oa ts[k].st.ddl.keys.length op, .string ts[k].st.ddl.name, .string ts[k].st.ddl.to] ts[k].st ∧ StrsV u (.slice ya ts[k].cols.length yp) ts[k].cols ∧ StrsV u (.slice za ts[k].keys.length zp) ts[k].keys) := fun u hu => by
        obtain ⟨_, _, _, _, _, _, _, _, _, _, _, _, e1, _, h1, h2, h3⟩ := (hx.on hu).lit
        cases e1
        exact ⟨h1, h2, h3⟩
      have hlen : (L4 ++ (ts.take k).flatMap partL).length ≤ 160000 := by
        have h1 := flat_part (ts.take k) fun x hx => HPR.out x (List.mem_of_mem_take hx)
        have h2 : (ts.take k).length ≤ 60 := by simp; omega
        have := HL4.out
        rw [List.length_append]; omega
      have HFL : Hid ((L4 ++ (ts.take k).flatMap partL) ++ partL ts[k] = L4 ++ (ts.take (k + 1)).flatMap partL) := by
        show _ = _
        rw [List.take_succ_eq_append_getElem hlt, List.flatMap_append]
        simp
      have HPL : Hid (partL ts[k] = numL (stmtL ts[k].st).length 2 ++ stmtL ts[k].st ++ wordsL ts[k].cols ++ wordsL ts[k].keys) := rfl
      have hsl := stmtL_length HRK.out.1
      have hs1 : 1 ≤ (stmtL ts[k].st).length := by simp [stmtL]
      have hcl := wordsL_length HRK.out.2.1
      have h8c := HRK.out.2.1.1
      have h8k := HRK.out.2.2.1
      have HSB : Hid (∀ u, Below w.heap.size w u → Calls Tryz.prog 31 #[.agg #[.int .i64 ts[k].st.kind, .string ts[k].st.table, .slice ka ts[k].st.key.length kp, .slice ra ts[k].st.row.length rp, .int .i64 ts[k].st.ddl.kind, .string ts[k].st.ddl.table, .slice ca ts[k].st.ddl.cols.length cp, .slice oa ts[k].st.ddl.keys.length op, .string ts[k].st.ddl.name, .string ts[k].st.ddl.to]] u fun e w' => ∃ v', e = .returned (.tuple #[v', .bool true]) ∧ Below u.heap.size u w' ∧ Got w' u.heap.size 5 1 v' ((stmtL ts[k].st).map byX)) := fun u hu => stmtBytes_spec _ ts[k].st u (HP.out u hu).1 HFK.out.1 true _ (Or.inl ⟨rfl, HRK.out.1, rfl⟩)
      have HCK : Hid (∀ s ∈ ts[k].cols, okWord s) := fewW_ok HRK.out.2.1
      have HKK : Hid (∀ s ∈ ts[k].keys, okWord s) := fewW_ok HRK.out.2.2
      have hba : Below wr.heap.size wr (wr.alloc (.cells #[.int .i64 ts[k].st.kind, .string ts[k].st.table, .slice ka ts[k].st.key.length kp, .slice ra ts[k].st.row.length rp, .int .i64 ts[k].st.ddl.kind, .string ts[k].st.ddl.table, .slice ca ts[k].st.ddl.cols.length cp, .slice oa ts[k].st.ddl.keys.length op, .string ts[k].st.ddl.name, .string ts[k].st.ddl.to, .slice ya ts[k].cols.length yp, .slice za ts[k].keys.length zp] 68)) := (by repeat (first | with_reducible exact Below.refl _ _ | with_reducible assumption | with_reducible refine ch_alloc ?_ _ | with_reducible refine Below.drew ?_ | with_reducible refine below_draws _ ?_ | (with_reducible refine Below.setCell ?_ ?_ _; rotate_left; focus (first | with_reducible exact Nat.le_refl _ | (simp; done) | (simp; omega) | (simp at *; omega))) | with_reducible refine ch_trans ?_ (by with_reducible assumption)))
      have HVa := Own.new wr 68 #[.int .i64 ts[k].st.kind, .string ts[k].st.table, .slice ka ts[k].st.key.length kp, .slice ra ts[k].st.row.length rp, .int .i64 ts[k].st.ddl.kind, .string ts[k].st.ddl.table, .slice ca ts[k].st.ddl.cols.length cp, .slice oa ts[k].st.ddl.keys.length op, .string ts[k].st.ddl.name, .string ts[k].st.ddl.to, .slice ya ts[k].cols.length yp, .slice za ts[k].keys.length zp]
      have HR5 : Hid (RowAt wr (some ⟨g5, o5, none⟩) 1 ((L4 ++ (ts.take k).flatMap partL).map byX)) := hr5
      rw [List.length_map]
      clear hx e0 e1 e2 e3 e4 e5 e6 e7 e8 e9 e10 e11 hgo hr5 HGr
      generalize L4 ++ (ts.take k).flatMap partL = L0 at HR5 hlen HFL hne ⊢
      generalize stmtL ts[k].st = SL at HSB HPL hsl hs1
      generalize partL ts[k] = PL at HPL HFL
      go_wp2_with fail
      refine (HSB.out _ (ch_trans hbr hba)).mono ?_
      rintro e w5 ⟨v5, rfl, b5, hg5⟩
      obtain ⟨a6, c6, rfl, _, _, hr6, _⟩ := hg5.row
      obtain ⟨g6, o6, rfl, hgo⟩ := hr6.bytes 0 (by omega)
      have HS5 : Hid (RowAt w5 (some ⟨g6, o6, none⟩) 1 (SL.map byX)) := hr6
      have hbr5 : Below wr.heap.size wr w5 := ch_trans hba b5
      have HV5 : Hid (Own w5 wr.heap.size 68 #[.int .i64 ts[k].st.kind, .string ts[k].st.table, .slice ka ts[k].st.key.length kp, .slice ra ts[k].st.row.length rp, .int .i64 ts[k].st.ddl.kind, .string ts[k].st.ddl.table, .slice ca ts[k].st.ddl.cols.length cp, .slice oa ts[k].st.ddl.keys.length op, .string ts[k].st.ddl.name, .string ts[k].st.ddl.to, .slice ya ts[k].cols.length yp, .slice za ts[k].keys.length zp]) := HVa.on b5
      have HR6 : Hid (RowAt w5 (some ⟨g5, o5, none⟩) 1 (L0.map byX)) := HR5.out.on hbr5
      rw [List.length_map]
      clear hgo hg5 hr6 b5 HVa HR5 d0 d1 d2 d3 d4 d5 d6 d7 d8 d9 d10 d11 hba
      have hs5 : wr.heap.size < w5.heap.size := HV5.out.lt
      go_wp2_with fail
      refine (putNum_spec g5 o5 c5 L0 (SL.length : Int) 2 w5 HR6.out (by omega) true (L0 ++ numL SL.length 2) (Or.inl ⟨rfl, okPut_two (by omega), by simp⟩)).mono ?_
      rintro e w6 ⟨v6, rfl, b6, hg6⟩
      obtain ⟨a7, n7, c7, rfl, hg6⟩ := hg6.lit2
      have HG6 : Hid (Got w6 w5.heap.size 5 1 (.slice a7 n7 c7) ((L0 ++ numL SL.length 2).map byX)) := hg6
      have hbr6 : Below wr.heap.size wr w6 := ch_trans hbr5 b6
      have HV6 : Hid (Own w6 wr.heap.size 68 #[.int .i64 ts[k].st.kind, .string ts[k].st.table, .slice ka ts[k].st.key.length kp, .slice ra ts[k].st.row.length rp, .int .i64 ts[k].st.ddl.kind, .string ts[k].st.ddl.table, .slice ca ts[k].st.ddl.cols.length cp, .slice oa ts[k].st.ddl.keys.length op, .string ts[k].st.ddl.name, .string ts[k].st.ddl.to, .slice ya ts[k].cols.length yp, .slice za ts[k].keys.length zp]) := HV5.out.on b6
      have HS6 : Hid (RowAt w6 (some ⟨g6, o6, none⟩) 1 (SL.map byX)) := HS5.out.on b6
      clear hg6 b6 HR6 HS5 HV5
      go_wp2_with fail
      refine region_planG (Gb w.heap.size) (Gb.rel w.heap.size) [([0, 1, 3, 4, 6, 7], 2), ([], 5), ([], 8)] [9] (by kernel_rfl) (by kernel_rfl) ?_
      have hgd := Grows.drawn w6
      generalize { w6 with drawn := w6.drawn + 1 } = wd at hgd ⊢
      have hrd : Below wr.heap.size wr wd := ch_trans hbr6 hgd
      have HBd : Hid (Gb w.heap.size w wd) := HBr.out.trans (Gb.new hrd (by omega))
      have HQd : Hid (Own wd (w.heap.size + 1) 28 #[.slice none 0 0]) := HQr.out.on hrd
      have HVd : Hid (Own wd wr.heap.size 68 #[.int .i64 ts[k].st.kind, .string ts[k].st.table, .slice ka ts[k].st.key.length kp, .slice ra ts[k].st.row.length rp, .int .i64 ts[k].st.ddl.kind, .string ts[k].st.ddl.table, .slice ca ts[k].st.ddl.cols.length cp, .slice oa ts[k].st.ddl.keys.length op, .string ts[k].st.ddl.name, .string ts[k].st.ddl.to, .slice ya ts[k].cols.length yp, .slice za ts[k].keys.length zp]) := HV6.out.on hgd
      have HSd : Hid (RowAt wd (some ⟨g6, o6, none⟩) 1 (SL.map byX)) := HS6.out.on hgd
      have HGd : Hid (Got wd w.heap.size 5 1 (.slice a7 n7 c7) ((L0 ++ numL SL.length 2).map byX)) := (HG6.out.on hgd).mono (by omega)
      have hsd : w.heap.size ≤ wd.heap.size := by have := hrd.size; omega
      have hzd : w.heap.size + 1 + 1 ≤ wd.heap.size := by have := hrd.size; omega
      clear hgd hrd HBr HQr HV6 HS6 HG6 hbr6 hbr5
      refine planG_on (by simp only [pick, List.getElem?_toArray, List.getElem?_cons_succ, List.getElem?_cons_zero]; rfl) ?_
      repeat (go_big_quiet_step ((intro hu; obtain ⟨n0, n1, n2, n3, n4, n5, n6, n7, n8, n9, n10, n11⟩ := (hu.2.own HVd.out (by decide)).loc.twelve; go_simp; (try exact rfl))))
      refine wpQuiet_nil ?_
      refine plan_call rfl rfl (fun Kk hK => ?_)
      refine app_calmT (.tmp 55) (.tmp 56) rfl Tryz.underlying26 infoByte rfl (by decide) (by decide) w.heap.size _ _ rfl HGd.out g6 o6 _ (SL.map byX) SL.length (by simp) rfl HSd.out (byte_one _) (by simp [numL_length]; omega) hsd ?_
      intro v8 w8 hg8 hb8 ht8
      have hq8 := Gb.got HGd.out ht8 hb8
      refine hK _ _ ⟨hq8, ?_⟩
      go_simp
      obtain ⟨a8, n8', c8, rfl, hg8⟩ := hg8.lit2
      have HG8 : Hid (Got w8 w.heap.size 5 1 (.slice a8 n8' c8) ((L0 ++ numL SL.length 2 ++ SL).map byX)) := by
        show Got _ _ _ _ _ _
        rw [List.map_append]; exact hg8
      have HB8 : Hid (Gb w.heap.size w w8) := HBd.out.trans hq8
      have HQ8 : Hid (Own w8 (w.heap.size + 1) 28 #[.slice none 0 0]) := hq8.2.own HQd.out (by decide)
      have hs8 : w.heap.size ≤ w8.heap.size := Nat.le_trans hsd hq8.1.size
      have hz8 : w.heap.size + 1 + 1 ≤ w8.heap.size := Nat.le_trans hzd hq8.1.size
      clear hK Kk hg8 hb8 ht8 hq8 HGd HSd HBd HQd HVd hsd hzd
      refine planG_on rfl ?_
      refine wpQuiet_nil ?_
      refine plan_call rfl rfl (fun Kk hK => ?_)
      go_simp
      go_at_call 32
      refine (l09Put_any _ w.heap.size (L0 ++ numL SL.length 2 ++ SL) ya yp ts[k].cols w8 HG8.out (fun u hu => (HP.out u (HB8.out.1.trans hu)).2.1.row) h8c HCK.out (by simp only [List.length_append, numL_length]; omega) hs8).mono ?_
      rintro e w9 ⟨v9, rfl, hb9, hg9⟩
      refine ⟨_, rfl, hK _ _ ⟨hb9, ?_⟩⟩
      obtain ⟨a9, n9', c9, rfl, hg9⟩ := hg9.lit2
      have HG9 : Hid (Got w9 w.heap.size 5 1 (.slice a9 n9' c9) ((L0 ++ numL SL.length 2 ++ SL ++ wordsL ts[k].cols).map byX)) := hg9
      have HB9 : Hid (Gb w.heap.size w w9) := HB8.out.trans hb9
      have HQ9 : Hid (Own w9 (w.heap.size + 1) 28 #[.slice none 0 0]) := hb9.2.own HQ8.out (by decide)
      have hs9 : w.heap.size ≤ w9.heap.size := Nat.le_trans hs8 hb9.1.size
      have hz9 : w.heap.size + 1 + 1 ≤ w9.heap.size := Nat.le_trans hz8 hb9.1.size
      clear hK Kk hg9 hb9 HG8 HB8 HQ8 hs8 hz8
      refine planG_on rfl ?_
      refine wpQuiet_nil ?_
      refine plan_call rfl rfl (fun Kk hK => ?_)
      go_simp
      go_at_call 32
      refine (l09Put_any _ w.heap.size (L0 ++ numL SL.length 2 ++ SL ++ wordsL ts[k].cols) za zp ts[k].keys w9 HG9.out (fun u hu => (HP.out u (HB9.out.1.trans hu)).2.2.row) h8k HKK.out (by simp only [List.length_append, numL_length]; omega) hs9).mono ?_
      rintro e w10 ⟨v10, rfl, hb10, hg10⟩
      refine ⟨_, rfl, hK _ _ ⟨hb10, ?_⟩⟩
      obtain ⟨a10, n10', c10, rfl, hg10⟩ := hg10.lit2
      have HG10 : Hid (Got w10 w.heap.size 5 1 (.slice a10 n10' c10) ((L4 ++ (ts.take (k + 1)).flatMap partL).map byX)) := by
        show Got _ _ _ _ _ _
        rw [← HFL.out, HPL.out]
        simpa using hg10
      have HB10 : Hid (Gb w.heap.size w w10) := HB9.out.trans hb10
      have HQ10 : Hid (Own w10 (w.heap.size + 1) 28 #[.slice none 0 0]) := hb10.2.own HQ9.out (by decide)
      have hz10 : w.heap.size + 1 + 1 ≤ w10.heap.size := Nat.le_trans hz9 hb10.1.size
      clear hK Kk hg10 hb10 HG9 HB9 HQ9 hs9 hz9 HFL HPL HP HSB
      refine planG_end (by simp only [pick, List.getElem?_toArray, List.getElem?_cons_succ, List.getElem?_cons_zero]; rfl) ?_
      repeat (go_big_quiet_step ((intro hu; go_simp; (try exact rfl))))
      refine wpQuiet_nil ?_
      go_wp2
      go_round
      case rel => exact ⟨k + 1, by omega, by go_num, HB10, HQ10, hz10, HG10⟩
      case measure => simp [intOf]; omega
    · have hlti : (ts.length : Int) ≤ k := by omega
      have hLB : L4 ++ (ts.take k).flatMap partL = BB := by
        rw [List.take_of_length_le (by omega), HB.out]
      have hgb := HGr.out.bytes
      rw [List.length_map] at hgb ⊢
      rw [hLB] at hgb hr5 hne ⊢
      have HR5 : Hid (RowAt wr (some ⟨g5, o5, none⟩) 1 (BB.map byX)) := hr5
      have HGB : Hid (BytesV wr (.slice (some ⟨g5, o5, none⟩) BB.length c5) BB) := hgb
      clear hgo hr5 hLB hgb HGr
      go_wp2_with fail
      refine (sum_spec _ BB wr HGB.out).mono ?_
      rintro e w6 ⟨rfl, b6⟩
      have hsl := sumL_lt BB
      go_wp2_with fail
      refine (putNum_spec g5 o5 c5 BB (sumL BB : Int) 3 w6 (HR5.out.on b6) (by omega) true (BB ++ numL (sumL BB) 3) (Or.inl ⟨rfl, okPut_three (by omega), by simp⟩)).mono ?_
      rintro e w7 ⟨v7, rfl, b7, hg7⟩
      obtain ⟨a7, n7, c7, rfl, hg7⟩ := hg7.lit2
      have hb7 : Below w.heap.size w w7 := ch_trans (ch_trans hbr b6) b7
      have HQ7 : Own w7 (w.heap.size + 1) 28 #[.slice none 0 0] := (HQr.out.on b6).on b7
      have hg7' : Got w7 (w.heap.size + 1 + 1) 5 1 (.slice a7 n7 c7) (D.map byX) := by
        rw [HD.out]; exact hg7.mono (by have := b6.size; omega)
      obtain ⟨d0, d1⟩ := cut_own HQ7 (Below.refl _ _)
      obtain ⟨k0, k1, k2⟩ := cut_end hb7 HQ7 (Below.refl _ _) hg7'
      have K2 : Hid (Got (w7.setCell ⟨w.heap.size + 1, 0, none⟩ (.slice a7 n7 c7)) w.heap.size 5 1 (.slice a7 n7 c7) _) := k2
      have K1 : Hid _ := k1
      clear k1 k2 hg7 hg7' HQ7 hb7 b7 b6 HGB HR5
      go_wp2
      generalize w7.setCell ⟨w.heap.size + 1, 0, none⟩ (.slice a7 n7 c7) = W at k0 K1 K2 ⊢
      exact bodyPost_ret (v := .tuple #[.agg #[.slice a7 n7 c7], .bool true]) (by simp [results, Tryz.results7, go_sem, k0]) rfl ⟨_, rfl, K1.out, K2.out⟩
end Go.Proofs.YtiijahoheajppaaGreat
