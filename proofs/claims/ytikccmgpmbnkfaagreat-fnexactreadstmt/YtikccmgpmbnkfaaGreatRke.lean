/- The given ReadStmt. -/
import Derived.Test.YtikccmgpmbnkfaaGreatRkd
namespace Go.Proofs.YtikccmgpmbnkfaaGreat
open Go.ChangeShapes Go.WideShapes Go.ChangeAt Go.RowKit

set_option maxRecDepth 100000 in
set_option maxHeartbeats 2000000 in
/-- spec.ReadStmt -/
theorem readStmt_spec (b off cap : Nat) (l : List UInt8) (w : World) (hb : b < w.heap.size) (hlc : l.length ≤ cap) (hcm : cap ≤ maxLen) (hl : l.length ≤ 1048576) (hr : RowAt w (some ⟨b, off, none⟩) 1 (l.map byX)) :
    Calls Tryz.prog 15 #[.slice (some ⟨b, off, none⟩) l.length cap] w fun e w' => ∃ (E : Est) (q : Bool), e = .returned (.tuple #[.agg E.cells, .bool q]) ∧ isStmt l E.s q ∧ w.heap.size ≤ E.lo ∧ E.Good w' ∧ Below w.heap.size w w' := by
  have HR : Hid (RowAt w (some ⟨b, off, none⟩) 1 (l.map byX)) := hr
  have hb0 : Below w.heap.size w ((w.alloc (.cells #[.int .i64 0, .string noS, .slice none 0 0, .slice none 0 0, .int .i64 0, .string noS, .slice none 0 0, .slice none 0 0, .string noS, .string noS] 48)).alloc (.cells #[.slice (some ⟨b, off, none⟩) l.length cap, .int .i64 1] 78)) := (by repeat (first | with_reducible exact Below.refl _ _ | with_reducible assumption | with_reducible refine ch_alloc ?_ _ | with_reducible refine Below.drew ?_ | with_reducible refine below_draws _ ?_ | (with_reducible refine Below.setCell ?_ ?_ _; rotate_left; focus (first | with_reducible exact Nat.le_refl _ | (simp; done) | (simp; omega) | (simp at *; omega))) | with_reducible refine ch_trans ?_ (by with_reducible assumption)))
  have hz0 : ((w.alloc (.cells #[.int .i64 0, .string noS, .slice none 0 0, .slice none 0 0, .int .i64 0, .string noS, .slice none 0 0, .slice none 0 0, .string noS, .string noS] 48)).alloc (.cells #[.slice (some ⟨b, off, none⟩) l.length cap, .int .i64 1] 78)).heap.size = w.heap.size + 1 + 1 := by simp
  have HO0 : Own ((w.alloc (.cells #[.int .i64 0, .string noS, .slice none 0 0, .slice none 0 0, .int .i64 0, .string noS, .slice none 0 0, .slice none 0 0, .string noS, .string noS] 48)).alloc (.cells #[.slice (some ⟨b, off, none⟩) l.length cap, .int .i64 1] 78)) w.heap.size 48 #[.int .i64 0, .string noS, .slice none 0 0, .slice none 0 0, .int .i64 0, .string noS, .slice none 0 0, .slice none 0 0, .string noS, .string noS] := (Own.new _ _ _).on (ch_alloc (Below.refl _ _) _)
  have HD0 : Hid (SdB ((w.alloc (.cells #[.int .i64 0, .string noS, .slice none 0 0, .slice none 0 0, .int .i64 0, .string noS, .slice none 0 0, .slice none 0 0, .string noS, .string noS] 48)).alloc (.cells #[.slice (some ⟨b, off, none⟩) l.length cap, .int .i64 1] 78)) (w.heap.size + 1) l 1) := ⟨b, off, cap, Own.at _ _ _ (by simp), by omega, hlc, hcm, HR.out.on hb0⟩
  have HN0 : Hid (∀ (u : World) (q : Nat), SdB u (w.heap.size + 1) l q → q ≤ 100000000 → Calls Tryz.prog 39 #[.pointer (some ⟨w.heap.size + 1, 0, none⟩), .int .i64 1] u fun e w' => e = .returned (.int .i64 (rdN 1 (l.drop q) : Int)) ∧ SdB w' (w.heap.size + 1) l (q + 1) ∧ Turns (· = w.heap.size + 1) u w') := fun u q hu hq => l06Take_any _ 1 q l u hu (by omega) (by omega) (by omega)
  have HX0 : Hid (∀ (u : World) (q : Nat), SdB u (w.heap.size + 1) l (q + 1) → q ≤ 100000000 → Calls Tryz.prog 40 #[.pointer (some ⟨w.heap.size + 1, 0, none⟩), .int .i64 (rdN 1 (l.drop q) : Int)] u fun e w' => e = .returned (.string (spX l q).1) ∧ SdB w' (w.heap.size + 1) l (spX l q).2 ∧ Turns (· = w.heap.size + 1) u w') := fun u q hu hq => l06Text_any _ (rdN 1 (l.drop q)) (q + 1) l u hu (by have := rdN_byte (l.drop q); omega) (by omega) hl
  have HV0 : Hid (∀ (u : World) (q : Nat), SdB u (w.heap.size + 1) l q → q ≤ 2000000 → Calls Tryz.prog 41 #[.pointer (some ⟨w.heap.size + 1, 0, none⟩)] u fun e w' => ∃ v, e = .returned v ∧ Got w' u.heap.size 128 3 v ((spR l q).1.map Vc.cells) ∧ SdB w' (w.heap.size + 1) l (spR l q).2 ∧ Turns (· = w.heap.size + 1) u w') := fun u q hu hq => l06Vals_at _ q l u hu hl hq
  have HDD : Hid (∀ (u : World) (q : Nat) (tb : ByteArray), SdB u (w.heap.size + 1) l q → q ≤ 2000000 → Calls Tryz.prog 42 #[.pointer (some ⟨w.heap.size + 1, 0, none⟩), .string tb] u fun e w' => DdlOut (w.heap.size + 1) u (spD tb l q).1 e w') := fun u q tb hu hq => readDdl_any _ q tb l u hu hl hq
  have HSD : Hid (spS l = ⟨(rdN 1 (l.drop 1) : Int), (spX l 2).1, (spR l (spX l 2).2).1, (spR l (spR l (spX l 2).2).2).1, if rdN 1 (l.drop 1) = 5 then (spD (spX l 2).1 l (spR l (spR l (spX l 2).2).2).2).1 else Dc.zero⟩) := rfl
  have HFIT : Hid ((spS l).fit ∧ (spS l).few) := spS_fit l
  have HU : Hid (∀ u : Sc, u.right → stmtL u = l → u = spS l) := fun u h1 h2 => by rw [← h2, spS_stmt u h1]
  have hx2 := spX_le l 2
  have hr1 := spR_le l (spX l 2).2
  have hr2 := spR_le l (spR l (spX l 2).2).2
  clear hr
  generalize spS l = SS at HSD HFIT HU
  go_enter Tryz.func15, Tryz.ntmps15
  go_wp2_with fail
  refine (HN0.out _ 1 HD0.out (by omega)).mono ?_
  rintro e w1 ⟨rfl, hd, ht⟩
  have HO1 := HO0.turned ht (by show ¬ (w.heap.size = w.heap.size + 1); omega)
  have hb1 : Below w.heap.size w w1 := hb0.trans (ht.toBelow (fun c h => by have h : c = w.heap.size + 1 := h; omega) (by omega))
  have hs1 : w.heap.size + 1 < w1.heap.size := by have := ht.size; omega
  have HD1 := hd
  clear hd ht HO0 HD0 hb0 hz0
  generalize hN5 : rdN 1 (l.drop 1) = N at HSD ⊢
  clear hN5
  have hbP : Below w1.heap.size w1 (w1.alloc (.cells #[.int .i64 (N : Int), .string noS, .slice none 0 0, .slice none 0 0, .int .i64 0, .string noS, .slice none 0 0, .slice none 0 0, .string noS, .string noS] 48)) := ch_alloc (Below.refl _ _) _
  have HP1 : Own (w1.alloc (.cells #[.int .i64 (N : Int), .string noS, .slice none 0 0, .slice none 0 0, .int .i64 0, .string noS, .slice none 0 0, .slice none 0 0, .string noS, .string noS] 48)) w1.heap.size 48 #[.int .i64 (N : Int), .string noS, .slice none 0 0, .slice none 0 0, .int .i64 0, .string noS, .slice none 0 0, .slice none 0 0, .string noS, .string noS] := Own.new _ _ _
  have HO1' := HO1.on hbP
  have HD1' := HD1.on hbP
  have hb1' := ch_trans hb1 hbP
  have hz1 : (w1.alloc (.cells #[.int .i64 (N : Int), .string noS, .slice none 0 0, .slice none 0 0, .int .i64 0, .string noS, .slice none 0 0, .slice none 0 0, .string noS, .string noS] 48)).heap.size = w1.heap.size + 1 := by simp
  clear HO1 HD1 hb1
  go_wp2_with fail
  generalize w1.alloc (.cells #[.int .i64 (N : Int), .string noS, .slice none 0 0, .slice none 0 0, .int .i64 0, .string noS, .slice none 0 0, .slice none 0 0, .string noS, .string noS] 48) = u1 at hbP HP1 HO1' HD1' hb1' hz1 ⊢
  generalize w1.heap.size = P at hs1 HP1 hz1 ⊢
  refine (HN0.out _ 2 HD1' (by omega)).mono ?_
  rintro e w2 ⟨rfl, hd, ht⟩
  have HP2 := HP1.turned ht (by show ¬ (P = w.heap.size + 1); omega)
  have HO2 := HO1'.turned ht (by show ¬ (w.heap.size = w.heap.size + 1); omega)
  have hb2 : Below w.heap.size w w2 := hb1'.trans (ht.toBelow (fun c h => by have h : c = w.heap.size + 1 := h; omega) (by have := hb1'.size; omega))
  have hs2 : P < w2.heap.size := HP2.lt
  have HD2 := hd
  clear hd ht HP1 HO1' HD1' hb1' hz1 hbP
  have HXa := HX0.out w2 2 HD2 (by omega)
  generalize spX l 2 = X at HXa HSD hx2 hr1 hr2
  generalize rdN 1 (l.drop 2) = M2 at HXa
  have HXa' : Hid (Calls Tryz.prog 40 #[.pointer (some ⟨w.heap.size + 1, 0, none⟩), .int .i64 (M2 : Int)] w2 fun e w' => e = .returned (.string X.1) ∧ SdB w' (w.heap.size + 1) l X.2 ∧ Turns (· = w.heap.size + 1) w2 w') := HXa
  clear HXa
  go_wp2_with fail
  refine HXa'.out.mono ?_
  rintro e w3 ⟨rfl, hd, ht⟩
  have HP3 := HP2.turned ht (by show ¬ (P = w.heap.size + 1); omega)
  have HO3 := HO2.turned ht (by show ¬ (w.heap.size = w.heap.size + 1); omega)
  have hb3 : Below w.heap.size w w3 := hb2.trans (ht.toBelow (fun c h => by have h : c = w.heap.size + 1 := h; omega) (by have := hb2.size; omega))
  have hs3 : P < w3.heap.size := HP3.lt
  obtain ⟨q0, q1, q2, q3, q4, q5, q6, q7, q8, q9⟩ := HP3.loc.ten
  have k1 := HP3.frozen 1
  have HP3s : Own (w3.setCell ⟨P, 1, none⟩ (.string X.1)) P 48 #[.int .i64 (N : Int), .string X.1, .slice none 0 0, .slice none 0 0, .int .i64 0, .string noS, .slice none 0 0, .slice none 0 0, .string noS, .string noS] := HP3.set 1 _
  have HO3s := HO3.other (p := ⟨P, 1, none⟩) (by show w.heap.size ≠ P; omega) (.string X.1)
  have HD3s := hd.other (a := ⟨P, 1, none⟩) (by show w.heap.size + 1 < P; omega) (.string X.1)
  have hb3s : Below w.heap.size w (w3.setCell ⟨P, 1, none⟩ (.string X.1)) := stores_below (b := P) (by omega) [.string X.1] _ 1 hb3
  have hz3 : (w3.setCell ⟨P, 1, none⟩ (.string X.1)).heap.size = w3.heap.size := stores_size P [.string X.1] w3 1
  clear hd ht HP2 HO2 HD2 hb2 HXa' HP3 HO3 hb3
  go_wp2_with fail
  clear q0 q1 q2 q3 q4 q5 q6 q7 q8 q9 k1
  generalize w3.setCell ⟨P, 1, none⟩ (.string X.1) = u3 at HP3s HO3s HD3s hb3s hz3 ⊢
  have hcX : X.2 ≤ 1100000 := by omega
  have HVa := HV0.out u3 X.2 HD3s (by omega)
  generalize spR l X.2 = AA at HVa HSD hr1 hr2
  refine HVa.mono ?_
  rintro e w4 ⟨v4, rfl, hg4, hd, ht⟩
  obtain ⟨a4, n4, c4, rfl, hg4⟩ := hg4.lit2
  have HP4 := HP3s.turned ht (by show ¬ (P = w.heap.size + 1); omega)
  have HO4 := HO3s.turned ht (by show ¬ (w.heap.size = w.heap.size + 1); omega)
  have hb4 : Below w.heap.size w w4 := hb3s.trans (ht.toBelow (fun c h => by have h : c = w.heap.size + 1 := h; omega) (by have := hb3s.size; omega))
  have hs4 : u3.heap.size ≤ w4.heap.size := ht.size
  obtain ⟨q0, q1, q2, q3, q4, q5, q6, q7, q8, q9⟩ := HP4.loc.ten
  have k2 := HP4.frozen 2
  have HL4 : Hid (∀ g, (Value.slice a4 n4 c4).ownBlock = some g → g < w4.heap.size) := hg4.lt
  have HG4 : Got (w4.setCell ⟨P, 2, none⟩ (.slice a4 n4 c4)) u3.heap.size 128 3 (.slice a4 n4 c4) (AA.1.map Vc.cells) := hg4.setP (p := ⟨P, 2, none⟩) (by show P < u3.heap.size; omega) _
  have HP4s : Own (w4.setCell ⟨P, 2, none⟩ (.slice a4 n4 c4)) P 48 #[.int .i64 (N : Int), .string X.1, .slice a4 n4 c4, .slice none 0 0, .int .i64 0, .string noS, .slice none 0 0, .slice none 0 0, .string noS, .string noS] := HP4.set 2 _
  have HO4s := HO4.other (p := ⟨P, 2, none⟩) (by show w.heap.size ≠ P; omega) (.slice a4 n4 c4)
  have HD4s := hd.other (a := ⟨P, 2, none⟩) (by show w.heap.size + 1 < P; omega) (.slice a4 n4 c4)
  have hb4s : Below w.heap.size w (w4.setCell ⟨P, 2, none⟩ (.slice a4 n4 c4)) := stores_below (b := P) (by omega) [.slice a4 n4 c4] _ 2 hb4
  have hz4 : (w4.setCell ⟨P, 2, none⟩ (.slice a4 n4 c4)).heap.size = w4.heap.size := stores_size P [.slice a4 n4 c4] w4 2
  clear hd ht HP3s HO3s HD3s hb3s HVa HP4 HO4 hb4 hg4
  go_wp2_with fail
  clear q0 q1 q2 q3 q4 q5 q6 q7 q8 q9 k2
  generalize w4.setCell ⟨P, 2, none⟩ (.slice a4 n4 c4) = u4 at HG4 HP4s HO4s HD4s hb4s hz4 ⊢
  have HVb := HV0.out u4 AA.2 HD4s (by omega)
  generalize spR l AA.2 = BB at HVb HSD hr2
  refine HVb.mono ?_
  rintro e w5 ⟨v5, rfl, hg5, hd, ht⟩
  obtain ⟨a5, n5, c5, rfl, hg5⟩ := hg5.lit2
  have HP5 := HP4s.turned ht (by show ¬ (P = w.heap.size + 1); omega)
  have HO5 := HO4s.turned ht (by show ¬ (w.heap.size = w.heap.size + 1); omega)
  have hb5 : Below w.heap.size w w5 := hb4s.trans (ht.toBelow (fun c h => by have h : c = w.heap.size + 1 := h; omega) (by have := hb4s.size; omega))
  have hs5 : u4.heap.size ≤ w5.heap.size := ht.size
  obtain ⟨q0, q1, q2, q3, q4, q5, q6, q7, q8, q9⟩ := HP5.loc.ten
  have k3 := HP5.frozen 3
  have HL5 : Hid (∀ g, (Value.slice a5 n5 c5).ownBlock = some g → g < w5.heap.size) := hg5.lt
  have HG45 : Got (w5.setCell ⟨P, 3, none⟩ (.slice a5 n5 c5)) u3.heap.size 128 3 (.slice a4 n4 c4) (AA.1.map Vc.cells) := (HG4.turns ht fun c h => by have h : c = w.heap.size + 1 := h; omega).setP (p := ⟨P, 3, none⟩) (by show P < u3.heap.size; omega) _
  have HG5 : Got (w5.setCell ⟨P, 3, none⟩ (.slice a5 n5 c5)) u4.heap.size 128 3 (.slice a5 n5 c5) (BB.1.map Vc.cells) := hg5.setP (p := ⟨P, 3, none⟩) (by show P < u4.heap.size; omega) _
  have HP5s : Own (w5.setCell ⟨P, 3, none⟩ (.slice a5 n5 c5)) P 48 #[.int .i64 (N : Int), .string X.1, .slice a4 n4 c4, .slice a5 n5 c5, .int .i64 0, .string noS, .slice none 0 0, .slice none 0 0, .string noS, .string noS] := HP5.set 3 _
  have HO5s := HO5.other (p := ⟨P, 3, none⟩) (by show w.heap.size ≠ P; omega) (.slice a5 n5 c5)
  have HD5s := hd.other (a := ⟨P, 3, none⟩) (by show w.heap.size + 1 < P; omega) (.slice a5 n5 c5)
  have hb5s : Below w.heap.size w (w5.setCell ⟨P, 3, none⟩ (.slice a5 n5 c5)) := stores_below (b := P) (by omega) [.slice a5 n5 c5] _ 3 hb5
  have hz5 : (w5.setCell ⟨P, 3, none⟩ (.slice a5 n5 c5)).heap.size = w5.heap.size := stores_size P [.slice a5 n5 c5] w5 3
  have hcB : BB.2 ≤ 2000000 := by omega
  have hDD := HDD.out
  clear hd ht HP4s HO4s HD4s hb4s HVb HP5 HO5 hb5 hg5 HG4 HN0 HX0 HV0 HDD
  by_cases h5 : N = 5
  · have hne : ((N : Int) == 5) = true := by simp [h5]
    obtain ⟨dd, hdd⟩ : ∃ dd, dd = (spD X.1 l BB.2).1 := ⟨_, rfl⟩
    have htb : dd.table = X.1 := by rw [hdd]; rfl
    have HDA := hDD (w5.setCell ⟨P, 3, none⟩ (.slice a5 n5 c5)) BB.2 X.1 HD5s hcB
    rw [← hdd] at HDA
    obtain ⟨dk, dtb, dcs, dks, dnm, dto⟩ := dd
    have htb : dtb = X.1 := htb
    subst htb
    have HDA' : Hid (Calls Tryz.prog 42 #[.pointer (some ⟨w.heap.size + 1, 0, none⟩), .string X.1] (w5.setCell ⟨P, 3, none⟩ (.slice a5 n5 c5)) fun e w' => DdlOut (w.heap.size + 1) (w5.setCell ⟨P, 3, none⟩ (.slice a5 n5 c5)) ⟨dk, X.1, dcs, dks, dnm, dto⟩ e w') := HDA
    have HSS : Hid (SS = ⟨(N : Int), X.1, AA.1, BB.1, ⟨dk, X.1, dcs, dks, dnm, dto⟩⟩) := by show _ = _; rw [HSD.out, if_pos h5, hdd]
    obtain ⟨q0, q1, q2, q3, q4, q5, q6, q7, q8, q9⟩ := HP5s.loc.ten
    clear HDA hdd HSD hDD h5
    go_wp2_with fail
    generalize hu5 : (w5.setCell ⟨P, 3, none⟩ (.slice a5 n5 c5)) = u5v at HG45 HG5 HP5s HO5s HD5s hb5s hz5 HDA' q0 q1 q2 q3 q4 q5 q6 q7 q8 q9 ⊢
    clear hu5
    refine HDA'.out.mono ?_
    rintro e w6 hout
    unfold DdlOut at hout
    simp only at hout
    obtain ⟨a6, n6, c6, a7, n7, c7, m, rfl, hg6, hg7, hl6, hm1, hm2, ht⟩ := hout
    have HP6 := HP5s.turned ht (by show ¬ (P = w.heap.size + 1); omega)
    have HO6 := HO5s.turned ht (by show ¬ (w.heap.size = w.heap.size + 1); omega)
    have HG46 := HG45.turns ht fun c h => by have h : c = w.heap.size + 1 := h; omega
    have HG56 := HG5.turns ht fun c h => by have h : c = w.heap.size + 1 := h; omega
    have hb6 : Below w.heap.size w w6 := hb5s.trans (ht.toBelow (fun c h => by have h : c = w.heap.size + 1 := h; omega) (by have := hb5s.size; omega))
    have HL6 : Hid (∀ g, (Value.slice a6 n6 c6).ownBlock = some g → g < m) := hl6
    have HL7 : Hid (∀ g, (Value.slice a7 n7 c7).ownBlock = some g → g < w6.heap.size) := hg7.lt
    have hs6 := ht.size
    obtain ⟨q0, q1, q2, q3, q4, q5, q6, q7, q8, q9⟩ := HP6.loc.ten
    have j4 := HP6.frozen 4
    have j5 := HP6.frozen 5
    have j6 := HP6.frozen 6
    have j7 := HP6.frozen 7
    have j8 := HP6.frozen 8
    have j9 := HP6.frozen 9
    have HPW : Own (stores w6 P 4 [.int .i64 dk, .string X.1, .slice a6 n6 c6, .slice a7 n7 c7, .string dnm, .string dto]) P 48 #[.int .i64 (N : Int), .string X.1, .slice a4 n4 c4, .slice a5 n5 c5, .int .i64 dk, .string X.1, .slice a6 n6 c6, .slice a7 n7 c7, .string dnm, .string dto] := own_stores [.int .i64 dk, .string X.1, .slice a6 n6 c6, .slice a7 n7 c7, .string dnm, .string dto] [.int .i64 (N : Int), .string X.1, .slice a4 n4 c4, .slice a5 n5 c5] [.int .i64 0, .string noS, .slice none 0 0, .slice none 0 0, .string noS, .string noS] w6 rfl HP6
    have HOW : Own (stores w6 P 4 [.int .i64 dk, .string X.1, .slice a6 n6 c6, .slice a7 n7 c7, .string dnm, .string dto]) w.heap.size 48 #[.int .i64 0, .string noS, .slice none 0 0, .slice none 0 0, .int .i64 0, .string noS, .slice none 0 0, .slice none 0 0, .string noS, .string noS] := Own.past (by omega) [.int .i64 dk, .string X.1, .slice a6 n6 c6, .slice a7 n7 c7, .string dnm, .string dto] w6 4 HO6
    have hbW : Below w.heap.size w (stores w6 P 4 [.int .i64 dk, .string X.1, .slice a6 n6 c6, .slice a7 n7 c7, .string dnm, .string dto]) := stores_below (b := P) (by omega) _ _ _ hb6
    have hzW : (stores w6 P 4 [.int .i64 dk, .string X.1, .slice a6 n6 c6, .slice a7 n7 c7, .string dnm, .string dto]).heap.size = w6.heap.size := stores_size _ _ _ _
    obtain ⟨E, hES, e2, e3, _, e5⟩ := Est.make (w := stores w6 P 4 [.int .i64 dk, .string X.1, .slice a6 n6 c6, .slice a7 n7 c7, .string dnm, .string dto]) (s := ⟨(N : Int), X.1, AA.1, BB.1, ⟨dk, X.1, dcs, dks, dnm, dto⟩⟩) (b0 := u3.heap.size) (b1 := u4.heap.size) (b2 := u5v.heap.size) (b3 := m) (b4 := w6.heap.size) (Got.many (by omega) _ _ _ HG46) (Got.many (by omega) _ _ _ HG56) (Got.many (by omega) _ _ _ hg6) (Got.many (by omega) _ _ _ hg7) (by rw [← HSS.out]; exact HFIT.out.2) (fun g h => by have := HL4.out g h; omega) (fun g h => by have := HL5.out g h; omega) HL6.out HL7.out (by omega) (by omega) hm1 hm2 (by omega)
    have hgood := e5
    have hcl : E.cells = #[.int .i64 (N : Int), .string X.1, .slice a4 n4 c4, .slice a5 n5 c5, .int .i64 dk, .string X.1, .slice a6 n6 c6, .slice a7 n7 c7, .string dnm, .string dto] := by rw [e2]
    rw [← HSS.out] at hES
    have hlo : w.heap.size < E.lo := by omega
    clear HG46 HG56 hg6 hg7 HP6 HO6 hb6 hl6 hm1 hm2 ht HDA' HG45 HG5 HP5s HO5s HD5s hb5s e2 e5 HL4 HL5 HL6 HL7 HSS
    simp only [stores, Nat.reduceAdd] at HPW HOW hbW hzW hgood
    obtain ⟨r0, r1, r2, r3, r4, r5, r6, r7, r8, r9⟩ := HPW.loc.ten
    go_wp2_with fail
    clear q0 q1 q2 q3 q4 q5 q6 q7 q8 q9 j4 j5 j6 j7 j8 j9 r0 r1 r2 r3 r4 r5 r6 r7 r8 r9
    generalize ((((((w6.setCell ⟨P, 4, none⟩ (.int .i64 dk)).setCell ⟨P, 5, none⟩ (.string X.1)).setCell ⟨P, 6, none⟩ (.slice a6 n6 c6)).setCell ⟨P, 7, none⟩ (.slice a7 n7 c7)).setCell ⟨P, 8, none⟩ (.string dnm)).setCell ⟨P, 9, none⟩ (.string dto)) = W at HPW HOW hbW hzW hgood ⊢
    have hst : StmtV W #[.int .i64 (N : Int), .string X.1, .slice a4 n4 c4, .slice a5 n5 c5, .int .i64 dk, .string X.1, .slice a6 n6 c6, .slice a7 n7 c7, .string dnm, .string dto] SS := by
      have h := hgood.stmt
      rw [hES, hcl] at h
      exact h
    obtain ⟨p0, p1, p2, p3, p4, p5, p6, p7, p8, p9⟩ := HPW.loc.ten
    have HGE : Hid (E.Good W) := hgood
    have HPP : Hid (Own W P 48 #[.int .i64 (N : Int), .string X.1, .slice a4 n4 c4, .slice a5 n5 c5, .int .i64 dk, .string X.1, .slice a6 n6 c6, .slice a7 n7 c7, .string dnm, .string dto]) := HPW
    have HST : Hid (StmtV W #[.int .i64 (N : Int), .string X.1, .slice a4 n4 c4, .slice a5 n5 c5, .int .i64 dk, .string X.1, .slice a6 n6 c6, .slice a7 n7 c7, .string dnm, .string dto] SS) := hst
    have HCL : Hid (E.cells = #[.int .i64 (N : Int), .string X.1, .slice a4 n4 c4, .slice a5 n5 c5, .int .i64 dk, .string X.1, .slice a6 n6 c6, .slice a7 n7 c7, .string dnm, .string dto]) := hcl
    clear hgood HPW hst hcl
    obtain ⟨qr, Lr, hqr⟩ : ∃ (q : Bool) (L : List UInt8), (q = true ∧ SS.right ∧ L = stmtL SS) ∨ (q = false ∧ ¬ SS.right ∧ L = []) := by
      by_cases h : SS.right
      · exact ⟨true, _, Or.inl ⟨rfl, h, rfl⟩⟩
      · exact ⟨false, _, Or.inr ⟨rfl, h, rfl⟩⟩
    skip
    refine (stmtBytes_spec #[.int .i64 (N : Int), .string X.1, .slice a4 n4 c4, .slice a5 n5 c5, .int .i64 dk, .string X.1, .slice a6 n6 c6, .slice a7 n7 c7, .string dnm, .string dto] SS W HST.out HFIT.out.1 qr Lr hqr).mono ?_
    rintro e w9 ⟨v9, rfl, b9, hg9⟩
    have HP9 := HPP.out.on b9
    have HO9 := HOW.on b9
    have HE9 : Hid (E.Good w9) := HGE.out.on b9
    have hb9 : Below w.heap.size w w9 := ch_trans hbW b9
    have hs9 : W.heap.size ≤ w9.heap.size := b9.size
    obtain ⟨a9, n9, c9, rfl, hg9⟩ := hg9.lit2
    clear p0 p1 p2 p3 p4 p5 p6 p7 p8 p9 b9 HOW HGE HST HPP
    obtain ⟨d0, d1, d2, d3, d4, d5, d6, d7, d8, d9⟩ := HO9.loc.ten
    have k0 := HO9.frozen 0
    have k1 := HO9.frozen 1
    have k2 := HO9.frozen 2
    have k3 := HO9.frozen 3
    have k4 := HO9.frozen 4
    have k5 := HO9.frozen 5
    have k6 := HO9.frozen 6
    have k7 := HO9.frozen 7
    have k8 := HO9.frozen 8
    have k9 := HO9.frozen 9
    have HFAIL : Hid (∃ E0 : Est, E0.cells = #[.int .i64 0, .string noS, .slice none 0 0, .slice none 0 0, .int .i64 0, .string noS, .slice none 0 0, .slice none 0 0, .string noS, .string noS] ∧ E0.s = Sc.zero ∧ Below w.heap.size w (stores w9 w.heap.size 0 [.int .i64 0, .string noS, .slice none 0 0, .slice none 0 0, .int .i64 0, .string noS, .slice none 0 0, .slice none 0 0, .string noS, .string noS]) ∧ w.heap.size ≤ E0.lo ∧ E0.Good (stores w9 w.heap.size 0 [.int .i64 0, .string noS, .slice none 0 0, .slice none 0 0, .int .i64 0, .string noS, .slice none 0 0, .slice none 0 0, .string noS, .string noS]) ∧ Own (stores w9 w.heap.size 0 [.int .i64 0, .string noS, .slice none 0 0, .slice none 0 0, .int .i64 0, .string noS, .slice none 0 0, .slice none 0 0, .string noS, .string noS]) w.heap.size 48 #[.int .i64 0, .string noS, .slice none 0 0, .slice none 0 0, .int .i64 0, .string noS, .slice none 0 0, .slice none 0 0, .string noS, .string noS]) := by
      obtain ⟨E0, z1, z2, z3, z4⟩ := Est.nothing w9
      exact ⟨E0, z2, z1, stores_below (Nat.le_refl _) _ _ _ hb9, by rw [z3]; omega, z4.many (by rw [z3]; omega) _ _, HO9.fill (old := [_, _, _, _, _, _, _, _, _, _]) [.int .i64 0, .string noS, .slice none 0 0, .slice none 0 0, .int .i64 0, .string noS, .slice none 0 0, .slice none 0 0, .string noS, .string noS] rfl⟩
    rcases hqr with ⟨rfl, hok, rfl⟩ | ⟨rfl, hok, rfl⟩
    rotate_left
    · have HI : Hid (isStmt l Sc.zero false) := Or.inr ⟨rfl, fun u h1 h2 => by
        have e := HU.out u h1 h2
        subst e
        exact hok h1, rfl⟩
      obtain ⟨E0, z1, z2, hB, hlo0, hG0, hQ⟩ := HFAIL.out
      have HGd : Hid (E0.Good _) := hG0
      have HBd : Hid _ := hB
      clear hG0 hB HFAIL HO9 hg9 hok HU
      simp only [stores, Nat.reduceAdd] at hQ HBd HGd
      go_wp2
      generalize ((((((((((w9.setCell ⟨w.heap.size, 0, none⟩ (.int .i64 0)).setCell ⟨w.heap.size, 1, none⟩ (.string noS)).setCell ⟨w.heap.size, 2, none⟩ (.slice none 0 0)).setCell ⟨w.heap.size, 3, none⟩ (.slice none 0 0)).setCell ⟨w.heap.size, 4, none⟩ (.int .i64 0)).setCell ⟨w.heap.size, 5, none⟩ (.string noS)).setCell ⟨w.heap.size, 6, none⟩ (.slice none 0 0)).setCell ⟨w.heap.size, 7, none⟩ (.slice none 0 0)).setCell ⟨w.heap.size, 8, none⟩ (.string noS)).setCell ⟨w.heap.size, 9, none⟩ (.string noS)) = V at hQ HBd HGd ⊢
      obtain ⟨e0, e1, e2, e3, e4, e5, e6, e7, e8, e9⟩ := hQ.loc.ten
      exact bodyPost_ret (v := .tuple #[.agg #[.int .i64 0, .string noS, .slice none 0 0, .slice none 0 0, .int .i64 0, .string noS, .slice none 0 0, .slice none 0 0, .string noS, .string noS], .bool false]) (by simp [results, Tryz.results15, go_sem, e0, e1, e2, e3, e4, e5, e6, e7, e8, e9]) rfl ⟨E0, false, by rw [z1], by rw [z2]; exact HI.out, hlo0, HGd.out, HBd.out⟩
    · obtain ⟨bb, bo, bc, e2, hr2⟩ := hg9.someV (by simp [stmtL])
      cases e2
      have hcv := fun k : Nat => conv_back (w9.drewN k) bb bo c9 (stmtL SS) (hr2.on (below_draws _ (Below.refl _ _)))
      have hr3 : RowAt w9 (some ⟨b, off, none⟩) 1 (l.map byX) := HR.out.on hb9
      have hcv2 := fun k : Nat => conv_back (w9.drewN k) b off cap l (hr3.on (below_draws _ (Below.refl _ _)))
      have hcv3 := conv_back w9 bb bo c9 (stmtL SS) hr2
      have hcv4 := conv_back w9 b off cap l hr3
      have HOK : Hid SS.right := hok
      clear hg9 hr2 hok hr3
      by_cases heq : stmtL SS = l
      · have HI : Hid (isStmt l SS true) := Or.inl ⟨rfl, HOK.out, heq⟩
        have hq : (stmtL SS == l) = true := by simp [heq]
        obtain ⟨p0, p1, p2, p3, p4, p5, p6, p7, p8, p9⟩ := HP9.loc.ten
        have hQ : Own (stores w9 w.heap.size 0 [.int .i64 (N : Int), .string X.1, .slice a4 n4 c4, .slice a5 n5 c5, .int .i64 dk, .string X.1, .slice a6 n6 c6, .slice a7 n7 c7, .string dnm, .string dto]) w.heap.size 48 #[.int .i64 (N : Int), .string X.1, .slice a4 n4 c4, .slice a5 n5 c5, .int .i64 dk, .string X.1, .slice a6 n6 c6, .slice a7 n7 c7, .string dnm, .string dto] := HO9.fill (old := [_, _, _, _, _, _, _, _, _, _]) [.int .i64 (N : Int), .string X.1, .slice a4 n4 c4, .slice a5 n5 c5, .int .i64 dk, .string X.1, .slice a6 n6 c6, .slice a7 n7 c7, .string dnm, .string dto] rfl
        have HGd : Hid (E.Good (stores w9 w.heap.size 0 [.int .i64 (N : Int), .string X.1, .slice a4 n4 c4, .slice a5 n5 c5, .int .i64 dk, .string X.1, .slice a6 n6 c6, .slice a7 n7 c7, .string dnm, .string dto])) := HE9.out.many (by omega) _ _
        have HBd : Hid (Below w.heap.size w (stores w9 w.heap.size 0 [.int .i64 (N : Int), .string X.1, .slice a4 n4 c4, .slice a5 n5 c5, .int .i64 dk, .string X.1, .slice a6 n6 c6, .slice a7 n7 c7, .string dnm, .string dto])) := stores_below (Nat.le_refl _) _ _ _ hb9
        clear HFAIL HO9 HP9 HU HE9 heq HOK
        simp only [stores, Nat.reduceAdd] at hQ HBd HGd
        go_wp2
        generalize ((((((((((w9.setCell ⟨w.heap.size, 0, none⟩ (.int .i64 (N : Int))).setCell ⟨w.heap.size, 1, none⟩ (.string X.1)).setCell ⟨w.heap.size, 2, none⟩ (.slice a4 n4 c4)).setCell ⟨w.heap.size, 3, none⟩ (.slice a5 n5 c5)).setCell ⟨w.heap.size, 4, none⟩ (.int .i64 dk)).setCell ⟨w.heap.size, 5, none⟩ (.string X.1)).setCell ⟨w.heap.size, 6, none⟩ (.slice a6 n6 c6)).setCell ⟨w.heap.size, 7, none⟩ (.slice a7 n7 c7)).setCell ⟨w.heap.size, 8, none⟩ (.string dnm)).setCell ⟨w.heap.size, 9, none⟩ (.string dto)) = V at hQ HBd HGd ⊢
        obtain ⟨e0, e1, e2, e3, e4, e5, e6, e7, e8, e9⟩ := hQ.loc.ten
        exact bodyPost_ret (v := .tuple #[.agg #[.int .i64 (N : Int), .string X.1, .slice a4 n4 c4, .slice a5 n5 c5, .int .i64 dk, .string X.1, .slice a6 n6 c6, .slice a7 n7 c7, .string dnm, .string dto], .bool true]) (by simp [results, Tryz.results15, go_sem, e0, e1, e2, e3, e4, e5, e6, e7, e8, e9]) rfl ⟨E, true, by rw [HCL.out], by rw [hES]; exact HI.out, by omega, HGd.out, HBd.out⟩
      · have HI : Hid (isStmt l Sc.zero false) := Or.inr ⟨rfl, fun u h1 h2 => by
          have e := HU.out u h1 h2
          subst e
          exact heq h2, rfl⟩
        have hq : (stmtL SS == l) = false := by simp [heq]
        obtain ⟨E0, z1, z2, hB, hlo0, hG0, hQ⟩ := HFAIL.out
        have HGd : Hid (E0.Good _) := hG0
        have HBd : Hid _ := hB
        clear hG0 hB HFAIL HO9 HP9 HU HE9 heq HOK
        simp only [stores, Nat.reduceAdd] at hQ HBd HGd
        go_wp2
        generalize ((((((((((w9.setCell ⟨w.heap.size, 0, none⟩ (.int .i64 0)).setCell ⟨w.heap.size, 1, none⟩ (.string noS)).setCell ⟨w.heap.size, 2, none⟩ (.slice none 0 0)).setCell ⟨w.heap.size, 3, none⟩ (.slice none 0 0)).setCell ⟨w.heap.size, 4, none⟩ (.int .i64 0)).setCell ⟨w.heap.size, 5, none⟩ (.string noS)).setCell ⟨w.heap.size, 6, none⟩ (.slice none 0 0)).setCell ⟨w.heap.size, 7, none⟩ (.slice none 0 0)).setCell ⟨w.heap.size, 8, none⟩ (.string noS)).setCell ⟨w.heap.size, 9, none⟩ (.string noS)) = V at hQ HBd HGd ⊢
        obtain ⟨e0, e1, e2, e3, e4, e5, e6, e7, e8, e9⟩ := hQ.loc.ten
        exact bodyPost_ret (v := .tuple #[.agg #[.int .i64 0, .string noS, .slice none 0 0, .slice none 0 0, .int .i64 0, .string noS, .slice none 0 0, .slice none 0 0, .string noS, .string noS], .bool false]) (by simp [results, Tryz.results15, go_sem, e0, e1, e2, e3, e4, e5, e6, e7, e8, e9]) rfl ⟨E0, false, by rw [z1], by rw [z2]; exact HI.out, hlo0, HGd.out, HBd.out⟩
  · have hne : ((N : Int) == 5) = false := beq_eq_false_iff_ne.2 (by omega)
    have HSS : Hid (SS = ⟨(N : Int), X.1, AA.1, BB.1, Dc.zero⟩) := by show _ = _; rw [HSD.out, if_neg h5]
    obtain ⟨r0, r1, r2, r3, r4, r5, r6, r7, r8, r9⟩ := HP5s.loc.ten
    clear HSD hDD h5
    go_wp2_with fail
    clear r0 r1 r2 r3 r4 r5 r6 r7 r8 r9
    generalize (w5.setCell ⟨P, 3, none⟩ (.slice a5 n5 c5)) = W at HG45 HG5 HP5s HO5s HD5s hb5s hz5 ⊢
    obtain ⟨E, hES, e2, e3, _, e5⟩ := Est.make (w := W) (s := ⟨(N : Int), X.1, AA.1, BB.1, Dc.zero⟩) (b0 := u3.heap.size) (b1 := u4.heap.size) (b2 := W.heap.size) (b3 := W.heap.size) (b4 := W.heap.size) HG45 HG5 (Got.nil _ _ _ _) (Got.nil _ _ _ _) (by rw [← HSS.out]; exact HFIT.out.2) (fun g h => by have := HL4.out g h; omega) (fun g h => by have := HL5.out g h; omega) (fun g h => by cases h) (fun g h => by cases h) (by omega) (by omega) (Nat.le_refl _) (Nat.le_refl _) (Nat.le_refl _)
    have hgood := e5
    have hcl : E.cells = #[.int .i64 (N : Int), .string X.1, .slice a4 n4 c4, .slice a5 n5 c5, .int .i64 0, .string noS, .slice none 0 0, .slice none 0 0, .string noS, .string noS] := by rw [e2]
    rw [← HSS.out] at hES
    have hlo : w.heap.size < E.lo := by omega
    have HPW := HP5s
    have HOW := HO5s
    have hbW := hb5s
    clear HG45 HG5 HP5s HO5s HD5s hb5s e2 e5 HL4 HL5 HSS
    have hst : StmtV W #[.int .i64 (N : Int), .string X.1, .slice a4 n4 c4, .slice a5 n5 c5, .int .i64 0, .string noS, .slice none 0 0, .slice none 0 0, .string noS, .string noS] SS := by
      have h := hgood.stmt
      rw [hES, hcl] at h
      exact h
    obtain ⟨p0, p1, p2, p3, p4, p5, p6, p7, p8, p9⟩ := HPW.loc.ten
    have HGE : Hid (E.Good W) := hgood
    have HPP : Hid (Own W P 48 #[.int .i64 (N : Int), .string X.1, .slice a4 n4 c4, .slice a5 n5 c5, .int .i64 0, .string noS, .slice none 0 0, .slice none 0 0, .string noS, .string noS]) := HPW
    have HST : Hid (StmtV W #[.int .i64 (N : Int), .string X.1, .slice a4 n4 c4, .slice a5 n5 c5, .int .i64 0, .string noS, .slice none 0 0, .slice none 0 0, .string noS, .string noS] SS) := hst
    have HCL : Hid (E.cells = #[.int .i64 (N : Int), .string X.1, .slice a4 n4 c4, .slice a5 n5 c5, .int .i64 0, .string noS, .slice none 0 0, .slice none 0 0, .string noS, .string noS]) := hcl
    clear hgood HPW hst hcl
    obtain ⟨qr, Lr, hqr⟩ : ∃ (q : Bool) (L : List UInt8), (q = true ∧ SS.right ∧ L = stmtL SS) ∨ (q = false ∧ ¬ SS.right ∧ L = []) := by
      by_cases h : SS.right
      · exact ⟨true, _, Or.inl ⟨rfl, h, rfl⟩⟩
      · exact ⟨false, _, Or.inr ⟨rfl, h, rfl⟩⟩
    skip
    refine (stmtBytes_spec #[.int .i64 (N : Int), .string X.1, .slice a4 n4 c4, .slice a5 n5 c5, .int .i64 0, .string noS, .slice none 0 0, .slice none 0 0, .string noS, .string noS] SS W HST.out HFIT.out.1 qr Lr hqr).mono ?_
    rintro e w9 ⟨v9, rfl, b9, hg9⟩
    have HP9 := HPP.out.on b9
    have HO9 := HOW.on b9
    have HE9 : Hid (E.Good w9) := HGE.out.on b9
    have hb9 : Below w.heap.size w w9 := ch_trans hbW b9
    have hs9 : W.heap.size ≤ w9.heap.size := b9.size
    obtain ⟨a9, n9, c9, rfl, hg9⟩ := hg9.lit2
    clear p0 p1 p2 p3 p4 p5 p6 p7 p8 p9 b9 HOW HGE HST HPP
    obtain ⟨d0, d1, d2, d3, d4, d5, d6, d7, d8, d9⟩ := HO9.loc.ten
    have k0 := HO9.frozen 0
    have k1 := HO9.frozen 1
    have k2 := HO9.frozen 2
    have k3 := HO9.frozen 3
    have k4 := HO9.frozen 4
    have k5 := HO9.frozen 5
    have k6 := HO9.frozen 6
    have k7 := HO9.frozen 7
    have k8 := HO9.frozen 8
    have k9 := HO9.frozen 9
    have HFAIL : Hid (∃ E0 : Est, E0.cells = #[.int .i64 0, .string noS, .slice none 0 0, .slice none 0 0, .int .i64 0, .string noS, .slice none 0 0, .slice none 0 0, .string noS, .string noS] ∧ E0.s = Sc.zero ∧ Below w.heap.size w (stores w9 w.heap.size 0 [.int .i64 0, .string noS, .slice none 0 0, .slice none 0 0, .int .i64 0, .string noS, .slice none 0 0, .slice none 0 0, .string noS, .string noS]) ∧ w.heap.size ≤ E0.lo ∧ E0.Good (stores w9 w.heap.size 0 [.int .i64 0, .string noS, .slice none 0 0, .slice none 0 0, .int .i64 0, .string noS, .slice none 0 0, .slice none 0 0, .string noS, .string noS]) ∧ Own (stores w9 w.heap.size 0 [.int .i64 0, .string noS, .slice none 0 0, .slice none 0 0, .int .i64 0, .string noS, .slice none 0 0, .slice none 0 0, .string noS, .string noS]) w.heap.size 48 #[.int .i64 0, .string noS, .slice none 0 0, .slice none 0 0, .int .i64 0, .string noS, .slice none 0 0, .slice none 0 0, .string noS, .string noS]) := by
      obtain ⟨E0, z1, z2, z3, z4⟩ := Est.nothing w9
      exact ⟨E0, z2, z1, stores_below (Nat.le_refl _) _ _ _ hb9, by rw [z3]; omega, z4.many (by rw [z3]; omega) _ _, HO9.fill (old := [_, _, _, _, _, _, _, _, _, _]) [.int .i64 0, .string noS, .slice none 0 0, .slice none 0 0, .int .i64 0, .string noS, .slice none 0 0, .slice none 0 0, .string noS, .string noS] rfl⟩
    rcases hqr with ⟨rfl, hok, rfl⟩ | ⟨rfl, hok, rfl⟩
    rotate_left
    · have HI : Hid (isStmt l Sc.zero false) := Or.inr ⟨rfl, fun u h1 h2 => by
        have e := HU.out u h1 h2
        subst e
        exact hok h1, rfl⟩
      obtain ⟨E0, z1, z2, hB, hlo0, hG0, hQ⟩ := HFAIL.out
      have HGd : Hid (E0.Good _) := hG0
      have HBd : Hid _ := hB
      clear hG0 hB HFAIL HO9 hg9 hok HU
      simp only [stores, Nat.reduceAdd] at hQ HBd HGd
      go_wp2
      generalize ((((((((((w9.setCell ⟨w.heap.size, 0, none⟩ (.int .i64 0)).setCell ⟨w.heap.size, 1, none⟩ (.string noS)).setCell ⟨w.heap.size, 2, none⟩ (.slice none 0 0)).setCell ⟨w.heap.size, 3, none⟩ (.slice none 0 0)).setCell ⟨w.heap.size, 4, none⟩ (.int .i64 0)).setCell ⟨w.heap.size, 5, none⟩ (.string noS)).setCell ⟨w.heap.size, 6, none⟩ (.slice none 0 0)).setCell ⟨w.heap.size, 7, none⟩ (.slice none 0 0)).setCell ⟨w.heap.size, 8, none⟩ (.string noS)).setCell ⟨w.heap.size, 9, none⟩ (.string noS)) = V at hQ HBd HGd ⊢
      obtain ⟨e0, e1, e2, e3, e4, e5, e6, e7, e8, e9⟩ := hQ.loc.ten
      exact bodyPost_ret (v := .tuple #[.agg #[.int .i64 0, .string noS, .slice none 0 0, .slice none 0 0, .int .i64 0, .string noS, .slice none 0 0, .slice none 0 0, .string noS, .string noS], .bool false]) (by simp [results, Tryz.results15, go_sem, e0, e1, e2, e3, e4, e5, e6, e7, e8, e9]) rfl ⟨E0, false, by rw [z1], by rw [z2]; exact HI.out, hlo0, HGd.out, HBd.out⟩
    · obtain ⟨bb, bo, bc, e2, hr2⟩ := hg9.someV (by simp [stmtL])
      cases e2
      have hcv := fun k : Nat => conv_back (w9.drewN k) bb bo c9 (stmtL SS) (hr2.on (below_draws _ (Below.refl _ _)))
      have hr3 : RowAt w9 (some ⟨b, off, none⟩) 1 (l.map byX) := HR.out.on hb9
      have hcv2 := fun k : Nat => conv_back (w9.drewN k) b off cap l (hr3.on (below_draws _ (Below.refl _ _)))
      have hcv3 := conv_back w9 bb bo c9 (stmtL SS) hr2
      have hcv4 := conv_back w9 b off cap l hr3
      have HOK : Hid SS.right := hok
      clear hg9 hr2 hok hr3
      by_cases heq : stmtL SS = l
      · have HI : Hid (isStmt l SS true) := Or.inl ⟨rfl, HOK.out, heq⟩
        have hq : (stmtL SS == l) = true := by simp [heq]
        obtain ⟨p0, p1, p2, p3, p4, p5, p6, p7, p8, p9⟩ := HP9.loc.ten
        have hQ : Own (stores w9 w.heap.size 0 [.int .i64 (N : Int), .string X.1, .slice a4 n4 c4, .slice a5 n5 c5, .int .i64 0, .string noS, .slice none 0 0, .slice none 0 0, .string noS, .string noS]) w.heap.size 48 #[.int .i64 (N : Int), .string X.1, .slice a4 n4 c4, .slice a5 n5 c5, .int .i64 0, .string noS, .slice none 0 0, .slice none 0 0, .string noS, .string noS] := HO9.fill (old := [_, _, _, _, _, _, _, _, _, _]) [.int .i64 (N : Int), .string X.1, .slice a4 n4 c4, .slice a5 n5 c5, .int .i64 0, .string noS, .slice none 0 0, .slice none 0 0, .string noS, .string noS] rfl
        have HGd : Hid (E.Good (stores w9 w.heap.size 0 [.int .i64 (N : Int), .string X.1, .slice a4 n4 c4, .slice a5 n5 c5, .int .i64 0, .string noS, .slice none 0 0, .slice none 0 0, .string noS, .string noS])) := HE9.out.many (by omega) _ _
        have HBd : Hid (Below w.heap.size w (stores w9 w.heap.size 0 [.int .i64 (N : Int), .string X.1, .slice a4 n4 c4, .slice a5 n5 c5, .int .i64 0, .string noS, .slice none 0 0, .slice none 0 0, .string noS, .string noS])) := stores_below (Nat.le_refl _) _ _ _ hb9
        clear HFAIL HO9 HP9 HU HE9 heq HOK
        simp only [stores, Nat.reduceAdd] at hQ HBd HGd
        go_wp2
        generalize ((((((((((w9.setCell ⟨w.heap.size, 0, none⟩ (.int .i64 (N : Int))).setCell ⟨w.heap.size, 1, none⟩ (.string X.1)).setCell ⟨w.heap.size, 2, none⟩ (.slice a4 n4 c4)).setCell ⟨w.heap.size, 3, none⟩ (.slice a5 n5 c5)).setCell ⟨w.heap.size, 4, none⟩ (.int .i64 0)).setCell ⟨w.heap.size, 5, none⟩ (.string noS)).setCell ⟨w.heap.size, 6, none⟩ (.slice none 0 0)).setCell ⟨w.heap.size, 7, none⟩ (.slice none 0 0)).setCell ⟨w.heap.size, 8, none⟩ (.string noS)).setCell ⟨w.heap.size, 9, none⟩ (.string noS)) = V at hQ HBd HGd ⊢
        obtain ⟨e0, e1, e2, e3, e4, e5, e6, e7, e8, e9⟩ := hQ.loc.ten
        exact bodyPost_ret (v := .tuple #[.agg #[.int .i64 (N : Int), .string X.1, .slice a4 n4 c4, .slice a5 n5 c5, .int .i64 0, .string noS, .slice none 0 0, .slice none 0 0, .string noS, .string noS], .bool true]) (by simp [results, Tryz.results15, go_sem, e0, e1, e2, e3, e4, e5, e6, e7, e8, e9]) rfl ⟨E, true, by rw [HCL.out], by rw [hES]; exact HI.out, by omega, HGd.out, HBd.out⟩
      · have HI : Hid (isStmt l Sc.zero false) := Or.inr ⟨rfl, fun u h1 h2 => by
          have e := HU.out u h1 h2
          subst e
          exact heq h2, rfl⟩
        have hq : (stmtL SS == l) = false := by simp [heq]
        obtain ⟨E0, z1, z2, hB, hlo0, hG0, hQ⟩ := HFAIL.out
        have HGd : Hid (E0.Good _) := hG0
        have HBd : Hid _ := hB
        clear hG0 hB HFAIL HO9 HP9 HU HE9 heq HOK
        simp only [stores, Nat.reduceAdd] at hQ HBd HGd
        go_wp2
        generalize ((((((((((w9.setCell ⟨w.heap.size, 0, none⟩ (.int .i64 0)).setCell ⟨w.heap.size, 1, none⟩ (.string noS)).setCell ⟨w.heap.size, 2, none⟩ (.slice none 0 0)).setCell ⟨w.heap.size, 3, none⟩ (.slice none 0 0)).setCell ⟨w.heap.size, 4, none⟩ (.int .i64 0)).setCell ⟨w.heap.size, 5, none⟩ (.string noS)).setCell ⟨w.heap.size, 6, none⟩ (.slice none 0 0)).setCell ⟨w.heap.size, 7, none⟩ (.slice none 0 0)).setCell ⟨w.heap.size, 8, none⟩ (.string noS)).setCell ⟨w.heap.size, 9, none⟩ (.string noS)) = V at hQ HBd HGd ⊢
        obtain ⟨e0, e1, e2, e3, e4, e5, e6, e7, e8, e9⟩ := hQ.loc.ten
        exact bodyPost_ret (v := .tuple #[.agg #[.int .i64 0, .string noS, .slice none 0 0, .slice none 0 0, .int .i64 0, .string noS, .slice none 0 0, .slice none 0 0, .string noS, .string noS], .bool false]) (by simp [results, Tryz.results15, go_sem, e0, e1, e2, e3, e4, e5, e6, e7, e8, e9]) rfl ⟨E0, false, by rw [z1], by rw [z2]; exact HI.out, hlo0, HGd.out, HBd.out⟩
end Go.Proofs.YtikccmgpmbnkfaaGreat
