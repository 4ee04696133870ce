/- The landed reader of bytes: columns, texts, changes. Packets in memory: the laws' size, copy, look and marks; PackCut, given and landed. -/
import Derived.Test.YtikccmgpmbnkfaaGreatCt
import Derived.Test.YtikccmgpmbnkfaaGreatRvb
import Derived.Test.YtikccmgpmbnkfaaGreatPn
import Derived.Test.YtikccmgpmbnkfaaGreatRw
import Derived.Test.YtikccmgpmbnkfaaGreatRi
namespace Go.Proofs.YtikccmgpmbnkfaaGreat
open Go.ChangeShapes Go.WideShapes Go.ChangeAt Go.RowKit

theorem infoColR : (Tryz.prog.info? 131).map (fun i => (i.zero, i.size, i.bytes)) = some (some (.agg #[.string ByteArray.empty, .int .i64 0, .bool false, .bool false, .int .i64 0, .int .i64 0, .string ByteArray.empty]), 7, 64) := by kernel_rfl
theorem infoStrR : (Tryz.prog.info? 9).map (fun i => (i.zero, i.size, i.bytes)) = some (some (.string ByteArray.empty), 1, 16) := by kernel_rfl
theorem col_oneR (c : Cl) : ∀ u ∈ c.cells.toList, u.oneCell' = true := fun u hu => by
  simp at hu
  rcases hu with rfl | rfl | rfl | rfl | rfl | rfl | rfl <;> rfl
theorem str_oneR (s : ByteArray) : ∀ u ∈ (strX s).toList, u.oneCell' = true := fun u hu => by simp at hu; subst hu; rfl
theorem RdB.many {w : World} {R b : Nat} {l : List UInt8} (hR : R < b) : ∀ (vs : List Value) (w2 : World) (o : Nat), RdB w2 R l → w.heap.size ≤ b → Turns (· = R) w w2 → RdB (stores w2 b o vs) R l ∧ Turns (· = R) w (stores w2 b o vs)
  | [], _, _, h, _, ht => ⟨h, ht⟩
  | v :: vs, _, o, h, hb, ht => RdB.many hR vs _ _ (h.other (p := ⟨b, o, none⟩) hR v) hb (ht.fresh (p := ⟨b, o, none⟩) hb v)

set_option maxRecDepth 100000 in
set_option maxHeartbeats 1000000 in
theorem col_aux (R : Nat) (w : World) (l D1 D2 D3 D4 D5 : List UInt8) (X1 s : ByteArray) (N ty n : Int) (f1 f2 : Bool) (h : RdB w R l)
    (HT : Hid (∀ u : World, RdB u R l → Calls Tryz.prog 82 #[.pointer (some ⟨R, 0, none⟩)] u fun e w' => e = .returned (.string X1) ∧ RdB w' R D1 ∧ Turns (· = R) u w'))
    (HN : Hid (∀ u : World, RdB u R D1 → Calls Tryz.prog 81 #[.pointer (some ⟨R, 0, none⟩), .int .i64 1] u fun e w' => e = .returned (.int .i64 N) ∧ RdB w' R D2 ∧ Turns (· = R) u w'))
    (HF1 : Hid (∀ u : World, RdB u R D2 → Calls Tryz.prog 138 #[.pointer (some ⟨R, 0, none⟩)] u fun e w' => e = .returned (.bool f1) ∧ RdB w' R D3 ∧ Turns (· = R) u w'))
    (HF2 : Hid (∀ u : World, RdB u R D3 → Calls Tryz.prog 138 #[.pointer (some ⟨R, 0, none⟩)] u fun e w' => e = .returned (.bool f2) ∧ RdB w' R D4 ∧ Turns (· = R) u w'))
    (HV : Hid (∀ u : World, RdB u R D4 → Calls Tryz.prog 113 #[.pointer (some ⟨R, 0, none⟩)] u fun e w' => e = .returned (.agg #[.int .i64 ty, .int .i64 n, .string s]) ∧ RdB w' R D5 ∧ Turns (· = R) u w')) :
    Calls Tryz.prog 115 #[.pointer (some ⟨R, 0, none⟩)] w fun e w' => e = .returned (.agg #[.string X1, .int .i64 N, .bool f1, .bool f2, .int .i64 ty, .int .i64 n, .string s]) ∧ RdB w' R D5 ∧ Turns (· = R) w w' := by
  have HR : Hid (RdB w R l) := h
  have hRw : R < w.heap.size := by obtain ⟨_, _, _, ho, _⟩ := h; exact ho.lt
  clear h
  have hb0 : Below w.heap.size w (w.alloc (.cells #[.string noS, .int .i64 0, .bool false, .bool false, .int .i64 0, .int .i64 0, .string noS] 131)) := (by repeat (first | with_reducible exact Below.refl _ _ | with_reducible assumption | with_reducible refine ch_alloc ?_ _ | with_reducible refine Below.drew ?_ | with_reducible refine below_draws _ ?_ | (with_reducible refine Below.setCell ?_ ?_ _; rotate_left; focus (first | with_reducible exact Nat.le_refl _ | (simp; done) | (simp; omega) | (simp at *; omega))) | with_reducible refine ch_trans ?_ (by with_reducible assumption)))
  have HO0 : Own (w.alloc (.cells #[.string noS, .int .i64 0, .bool false, .bool false, .int .i64 0, .int .i64 0, .string noS] 131)) w.heap.size 131 #[.string noS, .int .i64 0, .bool false, .bool false, .int .i64 0, .int .i64 0, .string noS] := Own.new _ _ _
  have HT0 : Turns (· = R) w (w.alloc (.cells #[.string noS, .int .i64 0, .bool false, .bool false, .int .i64 0, .int .i64 0, .string noS] 131)) := (Turns.refl (· = R) w).below hb0
  go_enter Tryz.func115, Tryz.ntmps115
  go_wp2_with fail
  refine (HT.out _ (HR.out.on hb0)).mono ?_
  rintro e w1 ⟨rfl, hd1, ht1⟩
  have HO1 := HO0.turned ht1 (by show ¬ (w.heap.size = R); omega)
  have HT1 := HT0.trans ht1
  have HD1 : Hid (RdB w1 R D1) := hd1
  clear hb0 HO0 HT0 hd1 ht1 HT HR
  go_wp2_with fail
  refine (HN.out _ HD1.out).mono ?_
  rintro e w2 ⟨rfl, hd2, ht2⟩
  have HO2 := HO1.turned ht2 (by show ¬ (w.heap.size = R); omega)
  have HT2 := HT1.trans ht2
  have HD2 : Hid (RdB w2 R D2) := hd2
  clear HO1 HT1 hd2 ht2 HN HD1
  go_wp2_with fail
  refine (HF1.out _ HD2.out).mono ?_
  rintro e w3 ⟨rfl, hd3, ht3⟩
  have HO3 := HO2.turned ht3 (by show ¬ (w.heap.size = R); omega)
  have HT3 := HT2.trans ht3
  have HD3 : Hid (RdB w3 R D3) := hd3
  clear HO2 HT2 hd3 ht3 HF1 HD2
  go_wp2_with fail
  refine (HF2.out _ HD3.out).mono ?_
  rintro e w4 ⟨rfl, hd4, ht4⟩
  have HO4 := HO3.turned ht4 (by show ¬ (w.heap.size = R); omega)
  have HT4 := HT3.trans ht4
  have HD4 : Hid (RdB w4 R D4) := hd4
  clear HO3 HT3 hd4 ht4 HF2 HD3
  go_wp2_with fail
  refine (HV.out _ HD4.out).mono ?_
  rintro e w5 ⟨rfl, hd5, ht5⟩
  have HO5 := HO4.turned ht5 (by show ¬ (w.heap.size = R); omega)
  have HT5 := HT4.trans ht5
  have HM : Hid (RdB (stores w5 w.heap.size 0 [.string X1, .int .i64 N, .bool f1, .bool f2, .int .i64 ty, .int .i64 n, .string s]) R D5 ∧ Turns (· = R) w (stores w5 w.heap.size 0 [.string X1, .int .i64 N, .bool f1, .bool f2, .int .i64 ty, .int .i64 n, .string s])) := RdB.many hRw _ _ _ hd5 (Nat.le_refl _) HT5
  have HQ : Own (stores w5 w.heap.size 0 [.string X1, .int .i64 N, .bool f1, .bool f2, .int .i64 ty, .int .i64 n, .string s]) w.heap.size 131 #[.string X1, .int .i64 N, .bool f1, .bool f2, .int .i64 ty, .int .i64 n, .string s] := HO5.fill (old := [_, _, _, _, _, _, _]) [.string X1, .int .i64 N, .bool f1, .bool f2, .int .i64 ty, .int .i64 n, .string s] rfl
  obtain ⟨d0, d1, d2, d3, d4, d5, d6⟩ := HO5.loc.seven
  have k0 := HO5.frozen 0
  have k1 := HO5.frozen 1
  have k2 := HO5.frozen 2
  have k3 := HO5.frozen 3
  have k4 := HO5.frozen 4
  have k5 := HO5.frozen 5
  have k6 := HO5.frozen 6
  clear HO4 HT4 hd5 ht5 HV HD4 HO5 HT5
  simp only [stores, Nat.reduceAdd] at HM HQ
  go_wp2
  generalize (((((((w5.setCell ⟨w.heap.size, 0, none⟩ (.string X1)).setCell ⟨w.heap.size, 1, none⟩ (.int .i64 N)).setCell ⟨w.heap.size, 2, none⟩ (.bool f1)).setCell ⟨w.heap.size, 3, none⟩ (.bool f2)).setCell ⟨w.heap.size, 4, none⟩ (.int .i64 ty)).setCell ⟨w.heap.size, 5, none⟩ (.int .i64 n)).setCell ⟨w.heap.size, 6, none⟩ (.string s)) = W at HM HQ ⊢
  obtain ⟨e0, e1, e2, e3, e4, e5, e6⟩ := HQ.loc.seven
  exact bodyPost_ret (v := .agg #[.string X1, .int .i64 N, .bool f1, .bool f2, .int .i64 ty, .int .i64 n, .string s]) (by simp [results, Tryz.results115, go_sem, e0, e1, e2, e3, e4, e5, e6]) rfl ⟨rfl, HM.out.1, HM.out.2⟩

/-- (*impl.byteReader).col -/
theorem col_any (R : Nat) (l : List UInt8) (w : World) (h : RdB w R l) :
    Calls Tryz.prog 115 #[.pointer (some ⟨R, 0, none⟩)] w fun e w' => e = .returned (.agg (rdC l).1.cells) ∧ RdB w' R (rdC l).2 ∧ Turns (· = R) w w' :=
  col_aux R w l _ _ _ _ _ _ _ _ _ _ _ _ h (fun u hu => text_any R l u hu) (fun u hu => num_any R 1 _ u hu (by omega) (by omega)) (fun u hu => flag_any R _ u hu) (fun u hu => flag_any R _ u hu) (fun u hu => val_any R _ u hu)

set_option maxRecDepth 100000 in
set_option maxHeartbeats 1000000 in
/-- impl.readMany of columns -/
theorem readCols_any (R : Nat) (l : List UInt8) (w : World) (h : RdB w R l) :
    Calls Tryz.prog 114 #[.pointer (some ⟨R, 0, none⟩), .func (.func 115) #[] #[]] w fun e w' => ∃ v, e = .returned v ∧ Got w' w.heap.size 131 7 v ((rdCs (rdN 1 l) (l.drop 1)).1.map Cl.cells) ∧ RdB w' R (rdCs (rdN 1 l) (l.drop 1)).2 ∧ Turns (· = R) w w' := by
  have HN : Hid (Calls Tryz.prog 81 #[.pointer (some ⟨R, 0, none⟩), .int .i64 1] w fun e w' => e = .returned (.int .i64 (rdN 1 l : Int)) ∧ RdB w' R (l.drop 1) ∧ Turns (· = R) w w') := num_any R 1 l w h (by omega) (by omega)
  have hRw : R < w.heap.size := by obtain ⟨_, _, _, ho, _⟩ := h; exact ho.lt
  have hn256 := rdN_byte l
  clear h
  generalize l.drop 1 = D at HN ⊢
  generalize rdN 1 l = N at HN hn256 ⊢
  go_enter Tryz.func114, Tryz.ntmps114
  go_wp2_with fail
  refine HN.out.mono ?_
  rintro e w1 ⟨rfl, hd, ht⟩
  have HD : Hid (RdB w1 R D) := hd
  have HT : Hid (Turns (· = R) w w1) := ht
  clear hd ht
  go_wp2
  go_loopw [5, 8] (fun q i wr => ∃ (k : Nat) (vs : List Cl) (cur : List UInt8), k ≤ N ∧ i = .int .i64 (k : Int) ∧ vs.length = k ∧ Hid (vs ++ (rdCs (N - k) cur).1 = (rdCs N D).1 ∧ (rdCs (N - k) cur).2 = (rdCs N D).2) ∧ Hid (RdB wr R cur) ∧ Hid (Turns (· = R) w wr) ∧ Hid (Got wr w.heap.size 131 7 q (vs.map Cl.cells))) (fun _ i _ => N - (intOf i).toNat)
  case atStart => exact ⟨0, [], D, Nat.zero_le _, rfl, rfl, ⟨rfl, rfl⟩, HD, HT, Got.nil _ _ _ _⟩
  case round =>
    clear HD HT
    obtain ⟨k, vs, cur, hk, rfl, hvk, HE, HD, HT, HG⟩ := hrel
    obtain ⟨a1, n1, c1, rfl, hg⟩ := HG.out.lit2
    have HG1 : Hid (Got wr w.heap.size 131 7 (.slice a1 n1 c1) (vs.map Cl.cells)) := hg
    clear hg HG
    by_cases hlt : k < N
    · have hlti : (k : Int) < N := by omega
      have HVA : Hid (Calls Tryz.prog 115 #[.pointer (some ⟨R, 0, none⟩)] wr fun e w' => e = .returned (.agg (rdC cur).1.cells) ∧ RdB w' R (rdC cur).2 ∧ Turns (· = R) wr w') := col_any R cur wr HD.out
      have HE' : Hid ((vs ++ [(rdC cur).1]) ++ (rdCs (N - (k + 1)) (rdC cur).2).1 = (rdCs N D).1 ∧ (rdCs (N - (k + 1)) (rdC cur).2).2 = (rdCs N D).2) := by
        refine ⟨?_, ?_⟩
        · rw [← HE.out.1, show N - k = (N - (k + 1)) + 1 by omega, List.append_assoc]; rfl
        · rw [← HE.out.2, show N - k = (N - (k + 1)) + 1 by omega]; rfl
      generalize (rdC cur).2 = nxt at HVA HE'
      generalize (rdC cur).1 = c at HVA HE'
      obtain ⟨nm, ty, nt, has, dt, dn, ds⟩ := c
      go_wp2_with fail
      refine HVA.out.mono ?_
      rintro e w2 ⟨rfl, hd, ht⟩
      have HD2 : Hid (RdB w2 R nxt) := hd
      have HT2 : Hid (Turns (· = R) w w2) := HT.out.trans ht
      have HG2 : Hid (Got w2 w.heap.size 131 7 (.slice a1 n1 c1) (vs.map Cl.cells)) := HG1.out.turns ht fun c h => by have h : c = R := h; omega
      have hs2 : w.heap.size ≤ w2.heap.size := HT2.out.size
      clear hd ht
      go_wp2_with (at_builtin; refine app_one rfl (.tmp 10) (.tmp 14) rfl Tryz.underlying43 infoColR rfl (by decide) (by decide) w.heap.size _ (vs.map Cl.cells) rfl (HG2.out.on (ch_alloc (Below.refl _ _) _)) w2.heap.size 1 #[.string nm, .int .i64 ty, .bool nt, .bool has, .int .i64 dt, .int .i64 dn, .string ds] rfl (Loc.new _ _ _) rfl (col_oneR ⟨nm, ty, nt, has, dt, dn, ds⟩) (by simp; omega) (by simp; omega) ?_; intro v3 w3 hg3 hb3)
      have HG3 : Hid (Got w3 w.heap.size 131 7 v3 ((vs ++ [(⟨nm, ty, nt, has, dt, dn, ds⟩ : Cl)]).map Cl.cells)) := by
        show Got _ _ _ _ _ _
        rw [List.map_append]; exact hg3
      have hb23 : Below w.heap.size w2 w3 := (Below.alloc (Below.refl _ _) hs2 _).trans hb3
      have HD3 : Hid (RdB w3 R nxt) := HD2.out.low hRw hb23
      have HT3 : Hid (Turns (· = R) w w3) := HT2.out.low hb23
      clear hg3 hb3 hb23
      go_round
      case rel => exact ⟨k + 1, vs ++ [⟨nm, ty, nt, has, dt, dn, ds⟩], nxt, by omega, by go_num, by simp; omega, HE', HD3, HT3, HG3⟩
      case measure => simp [intOf]; omega
    · have hlti : (N : Int) ≤ k := by omega
      have HF : Hid (vs = (rdCs N D).1 ∧ cur = (rdCs N D).2) := by
        have := HE.out
        rw [show N - k = 0 by omega, rdCs] at this
        show vs = _ ∧ _
        simpa using this
      go_wp2
      go_ret
      exact ⟨_, rfl, by rw [← HF.out.1]; exact HG1.out, by rw [← HF.out.2]; exact HD.out, HT.out⟩
set_option maxRecDepth 100000 in
set_option maxHeartbeats 1000000 in
/-- impl.readMany of texts -/
theorem readTexts_any (R : Nat) (l : List UInt8) (w : World) (h : RdB w R l) :
    Calls Tryz.prog 139 #[.pointer (some ⟨R, 0, none⟩), .func (.func 82) #[] #[]] w fun e w' => ∃ v, e = .returned v ∧ Got w' w.heap.size 9 1 v ((rdTs (rdN 1 l) (l.drop 1)).1.map strX) ∧ RdB w' R (rdTs (rdN 1 l) (l.drop 1)).2 ∧ Turns (· = R) w w' := by
  have HN : Hid (Calls Tryz.prog 81 #[.pointer (some ⟨R, 0, none⟩), .int .i64 1] w fun e w' => e = .returned (.int .i64 (rdN 1 l : Int)) ∧ RdB w' R (l.drop 1) ∧ Turns (· = R) w w') := num_any R 1 l w h (by omega) (by omega)
  have hRw : R < w.heap.size := by obtain ⟨_, _, _, ho, _⟩ := h; exact ho.lt
  have hn256 := rdN_byte l
  clear h
  generalize l.drop 1 = D at HN ⊢
  generalize rdN 1 l = N at HN hn256 ⊢
  go_enter Tryz.func139, Tryz.ntmps139
  go_wp2_with fail
  refine HN.out.mono ?_
  rintro e w1 ⟨rfl, hd, ht⟩
  have HD : Hid (RdB w1 R D) := hd
  have HT : Hid (Turns (· = R) w w1) := ht
  clear hd ht
  go_wp2
  go_loopw [5, 8] (fun q i wr => ∃ (k : Nat) (vs : List ByteArray) (cur : List UInt8), k ≤ N ∧ i = .int .i64 (k : Int) ∧ vs.length = k ∧ Hid (vs ++ (rdTs (N - k) cur).1 = (rdTs N D).1 ∧ (rdTs (N - k) cur).2 = (rdTs N D).2) ∧ Hid (RdB wr R cur) ∧ Hid (Turns (· = R) w wr) ∧ Hid (Got wr w.heap.size 9 1 q (vs.map strX))) (fun _ i _ => N - (intOf i).toNat)
  case atStart => exact ⟨0, [], D, Nat.zero_le _, rfl, rfl, ⟨rfl, rfl⟩, HD, HT, Got.nil _ _ _ _⟩
  case round =>
    clear HD HT
    obtain ⟨k, vs, cur, hk, rfl, hvk, HE, HD, HT, HG⟩ := hrel
    obtain ⟨a1, n1, c1, rfl, hg⟩ := HG.out.lit2
    have HG1 : Hid (Got wr w.heap.size 9 1 (.slice a1 n1 c1) (vs.map strX)) := hg
    clear hg HG
    by_cases hlt : k < N
    · have hlti : (k : Int) < N := by omega
      have HVA : Hid (Calls Tryz.prog 82 #[.pointer (some ⟨R, 0, none⟩)] wr fun e w' => e = .returned (.string (rdT cur).1) ∧ RdB w' R (rdT cur).2 ∧ Turns (· = R) wr w') := text_any R cur wr HD.out
      have HE' : Hid ((vs ++ [(rdT cur).1]) ++ (rdTs (N - (k + 1)) (rdT cur).2).1 = (rdTs N D).1 ∧ (rdTs (N - (k + 1)) (rdT cur).2).2 = (rdTs N D).2) := by
        refine ⟨?_, ?_⟩
        · rw [← HE.out.1, show N - k = (N - (k + 1)) + 1 by omega, List.append_assoc]; rfl
        · rw [← HE.out.2, show N - k = (N - (k + 1)) + 1 by omega]; rfl
      generalize (rdT cur).2 = nxt at HVA HE'
      generalize (rdT cur).1 = c at HVA HE'
      go_wp2_with fail
      refine HVA.out.mono ?_
      rintro e w2 ⟨rfl, hd, ht⟩
      have HD2 : Hid (RdB w2 R nxt) := hd
      have HT2 : Hid (Turns (· = R) w w2) := HT.out.trans ht
      have HG2 : Hid (Got w2 w.heap.size 9 1 (.slice a1 n1 c1) (vs.map strX)) := HG1.out.turns ht fun c h => by have h : c = R := h; omega
      have hs2 : w.heap.size ≤ w2.heap.size := HT2.out.size
      clear hd ht
      go_wp2_with (at_builtin; refine app_one rfl (.tmp 10) (.tmp 14) rfl Tryz.underlying44 infoStrR rfl (by decide) (by decide) w.heap.size _ (vs.map strX) rfl (HG2.out.on (ch_alloc (Below.refl _ _) _)) w2.heap.size 1 #[.string c] rfl (Loc.new _ _ _) rfl (str_oneR c) (by simp; omega) (by simp; omega) ?_; intro v3 w3 hg3 hb3)
      have HG3 : Hid (Got w3 w.heap.size 9 1 v3 ((vs ++ [c]).map strX)) := by
        show Got _ _ _ _ _ _
        rw [List.map_append]; exact hg3
      have hb23 : Below w.heap.size w2 w3 := (Below.alloc (Below.refl _ _) hs2 _).trans hb3
      have HD3 : Hid (RdB w3 R nxt) := HD2.out.low hRw hb23
      have HT3 : Hid (Turns (· = R) w w3) := HT2.out.low hb23
      clear hg3 hb3 hb23
      go_round
      case rel => exact ⟨k + 1, vs ++ [c], nxt, by omega, by go_num, by simp; omega, HE', HD3, HT3, HG3⟩
      case measure => simp [intOf]; omega
    · have hlti : (N : Int) ≤ k := by omega
      have HF : Hid (vs = (rdTs N D).1 ∧ cur = (rdTs N D).2) := by
        have := HE.out
        rw [show N - k = 0 by omega, rdTs] at this
        show vs = _ ∧ _
        simpa using this
      go_wp2
      go_ret
      exact ⟨_, rfl, by rw [← HF.out.1]; exact HG1.out, by rw [← HF.out.2]; exact HD.out, HT.out⟩

set_option maxRecDepth 100000 in
set_option maxHeartbeats 1000000 in
/-- impl.readMany of values -/
theorem readValsX_any (R : Nat) (l : List UInt8) (w : World) (h : RdB w R l) :
    Calls Tryz.prog 112 #[.pointer (some ⟨R, 0, none⟩), .func (.func 113) #[] #[]] w fun e w' => ∃ v, e = .returned v ∧ Got w' w.heap.size 128 3 v ((rdVs (rdN 1 l) (l.drop 1)).1.map Vc.cells) ∧ RdB w' R (rdVs (rdN 1 l) (l.drop 1)).2 ∧ Turns (· = R) w w' := by
  have HN : Hid (Calls Tryz.prog 81 #[.pointer (some ⟨R, 0, none⟩), .int .i64 1] w fun e w' => e = .returned (.int .i64 (rdN 1 l : Int)) ∧ RdB w' R (l.drop 1) ∧ Turns (· = R) w w') := num_any R 1 l w h (by omega) (by omega)
  have hRw : R < w.heap.size := by obtain ⟨_, _, _, ho, _⟩ := h; exact ho.lt
  have hn256 := rdN_byte l
  clear h
  generalize l.drop 1 = D at HN ⊢
  generalize rdN 1 l = N at HN hn256 ⊢
  go_enter Tryz.func112, Tryz.ntmps112
  go_wp2_with fail
  refine HN.out.mono ?_
  rintro e w1 ⟨rfl, hd, ht⟩
  have HD : Hid (RdB w1 R D) := hd
  have HT : Hid (Turns (· = R) w w1) := ht
  clear hd ht
  go_wp2
  go_loopw [5, 8] (fun q i wr => ∃ (k : Nat) (vs : List Vc) (cur : List UInt8), k ≤ N ∧ i = .int .i64 (k : Int) ∧ vs.length = k ∧ Hid (vs ++ (rdVs (N - k) cur).1 = (rdVs N D).1 ∧ (rdVs (N - k) cur).2 = (rdVs N D).2) ∧ Hid (RdB wr R cur) ∧ Hid (Turns (· = R) w wr) ∧ Hid (Got wr w.heap.size 128 3 q (vs.map Vc.cells))) (fun _ i _ => N - (intOf i).toNat)
  case atStart => exact ⟨0, [], D, Nat.zero_le _, rfl, rfl, ⟨rfl, rfl⟩, HD, HT, Got.nil _ _ _ _⟩
  case round =>
    clear HD HT
    obtain ⟨k, vs, cur, hk, rfl, hvk, HE, HD, HT, HG⟩ := hrel
    obtain ⟨a1, n1, c1, rfl, hg⟩ := HG.out.lit2
    have HG1 : Hid (Got wr w.heap.size 128 3 (.slice a1 n1 c1) (vs.map Vc.cells)) := hg
    clear hg HG
    by_cases hlt : k < N
    · have hlti : (k : Int) < N := by omega
      have HVA : Hid (Calls Tryz.prog 113 #[.pointer (some ⟨R, 0, none⟩)] wr fun e w' => e = .returned (.agg (rdV cur).1.cells) ∧ RdB w' R (rdV cur).2 ∧ Turns (· = R) wr w') := val_any R cur wr HD.out
      have HE' : Hid ((vs ++ [(rdV cur).1]) ++ (rdVs (N - (k + 1)) (rdV cur).2).1 = (rdVs N D).1 ∧ (rdVs (N - (k + 1)) (rdV cur).2).2 = (rdVs N D).2) := by
        refine ⟨?_, ?_⟩
        · rw [← HE.out.1, show N - k = (N - (k + 1)) + 1 by omega, List.append_assoc]; rfl
        · rw [← HE.out.2, show N - k = (N - (k + 1)) + 1 by omega]; rfl
      generalize (rdV cur).2 = nxt at HVA HE'
      generalize (rdV cur).1 = c at HVA HE'
      obtain ⟨ty, n, x⟩ := c
      go_wp2_with fail
      refine HVA.out.mono ?_
      rintro e w2 ⟨rfl, hd, ht⟩
      have HD2 : Hid (RdB w2 R nxt) := hd
      have HT2 : Hid (Turns (· = R) w w2) := HT.out.trans ht
      have HG2 : Hid (Got w2 w.heap.size 128 3 (.slice a1 n1 c1) (vs.map Vc.cells)) := HG1.out.turns ht fun c h => by have h : c = R := h; omega
      have hs2 : w.heap.size ≤ w2.heap.size := HT2.out.size
      clear hd ht
      go_wp2_with (at_builtin; refine app_one rfl (.tmp 10) (.tmp 14) rfl Tryz.underlying40 infoVal rfl (by decide) (by decide) w.heap.size _ (vs.map Vc.cells) rfl (HG2.out.on (ch_alloc (Below.refl _ _) _)) w2.heap.size 1 #[.int .i64 ty, .int .i64 n, .string x] rfl (Loc.new _ _ _) rfl (val_one ⟨ty, n, x⟩) (by simp; omega) (by simp; omega) ?_; intro v3 w3 hg3 hb3)
      have HG3 : Hid (Got w3 w.heap.size 128 3 v3 ((vs ++ [(⟨ty, n, x⟩ : Vc)]).map Vc.cells)) := by
        show Got _ _ _ _ _ _
        rw [List.map_append]; exact hg3
      have hb23 : Below w.heap.size w2 w3 := (Below.alloc (Below.refl _ _) hs2 _).trans hb3
      have HD3 : Hid (RdB w3 R nxt) := HD2.out.low hRw hb23
      have HT3 : Hid (Turns (· = R) w w3) := HT2.out.low hb23
      clear hg3 hb3 hb23
      go_round
      case rel => exact ⟨k + 1, vs ++ [⟨ty, n, x⟩], nxt, by omega, by go_num, by simp; omega, HE', HD3, HT3, HG3⟩
      case measure => simp [intOf]; omega
    · have hlti : (N : Int) ≤ k := by omega
      have HF : Hid (vs = (rdVs N D).1 ∧ cur = (rdVs N D).2) := by
        have := HE.out
        rw [show N - k = 0 by omega, rdVs] at this
        show vs = _ ∧ _
        simpa using this
      go_wp2
      go_ret
      exact ⟨_, rfl, by rw [← HF.out.1]; exact HG1.out, by rw [← HF.out.2]; exact HD.out, HT.out⟩

set_option maxRecDepth 100000 in
/-- (*impl.byteReader).words -/
theorem wordsR_any (R : Nat) (l : List UInt8) (w : World) (h : RdB w R l) :
    Calls Tryz.prog 116 #[.pointer (some ⟨R, 0, none⟩)] w fun e w' => ∃ v, e = .returned v ∧ Got w' w.heap.size 9 1 v ((rdW l).1.map strX) ∧ RdB w' R (rdW l).2 ∧ Turns (· = R) w w' := by
  have HM : Hid (Calls Tryz.prog 139 #[.pointer (some ⟨R, 0, none⟩), .func (.func 82) #[] #[]] w fun e w' => ∃ v, e = .returned v ∧ Got w' w.heap.size 9 1 v ((rdW l).1.map strX) ∧ RdB w' R (rdW l).2 ∧ Turns (· = R) w w') := readTexts_any R l w h
  clear h
  generalize rdW l = X at HM ⊢
  go_enter Tryz.func116, Tryz.ntmps116
  go_wp2_with fail
  refine HM.out.mono ?_
  rintro e w1 ⟨v, rfl, hg, hd, ht⟩
  have HG : Hid (Got w1 w.heap.size 9 1 v (X.1.map strX)) := hg
  have HD : Hid (RdB w1 R X.2) := hd
  have HT : Hid (Turns (· = R) w w1) := ht
  clear hg hd ht
  go_wp2
  go_ret
  exact ⟨_, rfl, HG.out, HD.out, HT.out⟩
end Go.Proofs.YtikccmgpmbnkfaaGreat

namespace Go.Proofs.YtikccmgpmbnkfaaGreat
open Go.ChangeShapes Go.WideShapes Go.ChangeAt Go.RowKit

set_option maxRecDepth 100000 in
/-- laws.szByteS -/
theorem szByteS_any (v : Value) (l : List UInt8) (n : Int) (w : World) (hv : BytesV w v l) (h0 : 0 ≤ n) (h1 : n ≤ 1048576) :
    Calls Tryz.prog 55 #[v, .int .i64 n] w fun e w' => ∃ r : Int, e = .returned (.int .i64 r) ∧ Below w.heap.size w w' ∧ (r = -1 ∨ (0 ≤ r ∧ r ≤ n ∧ l.length ≤ 1048576)) := by
  obtain ⟨a, p, rfl, hl, hm, _⟩ := hv.lit
  unfold maxLen at hm
  clear hv
  by_cases hn : n - l.length < 0
  · go_enter Tryz.func55, Tryz.ntmps55
    go_wp2
    go_ret
    exact ⟨_, rfl, (by repeat (first | with_reducible exact Below.refl _ _ | with_reducible assumption | with_reducible refine ch_alloc ?_ _ | with_reducible refine Below.drew ?_ | with_reducible refine below_draws _ ?_ | (with_reducible refine Below.setCell ?_ ?_ _; rotate_left; focus (first | with_reducible exact Nat.le_refl _ | (simp; done) | (simp; omega) | (simp at *; omega))) | with_reducible refine ch_trans ?_ (by with_reducible assumption))), Or.inl rfl⟩
  · go_enter Tryz.func55, Tryz.ntmps55
    go_wp2
    go_ret
    exact ⟨n - l.length, by go_num, (by repeat (first | with_reducible exact Below.refl _ _ | with_reducible assumption | with_reducible refine ch_alloc ?_ _ | with_reducible refine Below.drew ?_ | with_reducible refine below_draws _ ?_ | (with_reducible refine Below.setCell ?_ ?_ _; rotate_left; focus (first | with_reducible exact Nat.le_refl _ | (simp; done) | (simp; omega) | (simp at *; omega))) | with_reducible refine ch_trans ?_ (by with_reducible assumption))), Or.inr ⟨by omega, by omega, by omega⟩⟩

set_option maxRecDepth 100000 in
/-- laws.szPack -/
theorem szPack_any (v : Value) (l : List UInt8) (n : Int) (w : World) (hv : BytesV w v l) (h0 : 0 ≤ n) (h1 : n ≤ 1048576) :
    Calls Tryz.prog 23 #[.agg #[v], .int .i64 n] w fun e w' => ∃ r : Int, e = .returned (.int .i64 r) ∧ Below w.heap.size w w' ∧ (r = -1 ∨ (0 ≤ r ∧ r ≤ n ∧ l.length ≤ 1048576)) := by
  have HS : Hid (∀ u : World, Below w.heap.size w u → Calls Tryz.prog 55 #[v, .int .i64 n] u fun e w' => ∃ r : Int, e = .returned (.int .i64 r) ∧ Below u.heap.size u w' ∧ (r = -1 ∨ (0 ≤ r ∧ r ≤ n ∧ l.length ≤ 1048576))) := fun u hu => szByteS_any v l n u (hv.on hu) h0 h1
  obtain ⟨a, p, rfl, hl, hm, _⟩ := hv.lit
  have c0 := (Loc.new w #[.slice a l.length p] 57).one
  clear hv
  go_enter Tryz.func23, Tryz.ntmps23
  go_wp2_with fail
  refine (HS.out _ (by repeat (first | with_reducible exact Below.refl _ _ | with_reducible assumption | with_reducible refine ch_alloc ?_ _ | with_reducible refine Below.drew ?_ | with_reducible refine below_draws _ ?_ | (with_reducible refine Below.setCell ?_ ?_ _; rotate_left; focus (first | with_reducible exact Nat.le_refl _ | (simp; done) | (simp; omega) | (simp at *; omega))) | with_reducible refine ch_trans ?_ (by with_reducible assumption)))).mono ?_
  rintro e w1 ⟨r, rfl, b1, hr⟩
  rcases hr with rfl | ⟨r0, r1, r2⟩
  · go_wp2
    go_ret
    exact ⟨_, rfl, (by repeat (first | with_reducible exact Below.refl _ _ | with_reducible assumption | with_reducible refine ch_alloc ?_ _ | with_reducible refine Below.drew ?_ | with_reducible refine below_draws _ ?_ | (with_reducible refine Below.setCell ?_ ?_ _; rotate_left; focus (first | with_reducible exact Nat.le_refl _ | (simp; done) | (simp; omega) | (simp at *; omega))) | with_reducible refine ch_trans ?_ (by with_reducible assumption))), Or.inl rfl⟩
  · go_wp2
    go_ret
    exact ⟨_, rfl, (by repeat (first | with_reducible exact Below.refl _ _ | with_reducible assumption | with_reducible refine ch_alloc ?_ _ | with_reducible refine Below.drew ?_ | with_reducible refine below_draws _ ?_ | (with_reducible refine Below.setCell ?_ ?_ _; rotate_left; focus (first | with_reducible exact Nat.le_refl _ | (simp; done) | (simp; omega) | (simp at *; omega))) | with_reducible refine ch_trans ?_ (by with_reducible assumption))), Or.inr ⟨r0, r1, r2⟩⟩

set_option maxRecDepth 100000 in
/-- laws.toPack -/
theorem toPack_full (v : Value) (l : List UInt8) (w : World) (hv : BytesV w v l) (hn : l.length ≤ 1048576) :
    Calls Tryz.prog 25 #[.agg #[v]] w fun e w' => ∃ B, e = .returned (.agg #[.slice (some ⟨B, 0, none⟩) l.length l.length]) ∧ w.heap.size ≤ B ∧ B < w'.heap.size ∧ Below w.heap.size w w' ∧ Fill w' B 5 1 l.length (l.map byX) := by
  have HS : Hid (∀ u : World, Below w.heap.size w u → Calls Tryz.prog 16 #[v] u fun e w' => ∃ B, e = .returned (.slice (some ⟨B, 0, none⟩) l.length l.length) ∧ u.heap.size ≤ B ∧ Below u.heap.size u w' ∧ Fill w' B 5 1 l.length (l.map byX)) := fun u hu => (toByteS_full _ l u (hv.on hu) hn).mono fun e w' ⟨he, hb, hf⟩ => ⟨_, he, Nat.le_refl _, hb, hf⟩
  obtain ⟨a, p, rfl, hl, hm, _⟩ := hv.lit
  clear hv
  go_enter Tryz.func25, Tryz.ntmps25
  go_wp2_with fail
  have hb0 : Below w.heap.size w (((w.alloc (.cells #[.slice a l.length p] 57)).alloc (.cells #[.slice none 0 0] 28)).alloc (.cells #[.slice none 0 0] 28)) := (by repeat (first | with_reducible exact Below.refl _ _ | with_reducible assumption | with_reducible refine ch_alloc ?_ _ | with_reducible refine Below.drew ?_ | with_reducible refine below_draws _ ?_ | (with_reducible refine Below.setCell ?_ ?_ _; rotate_left; focus (first | with_reducible exact Nat.le_refl _ | (simp; done) | (simp; omega) | (simp at *; omega))) | with_reducible refine ch_trans ?_ (by with_reducible assumption)))
  have HQ := (Own.at (w.alloc (.cells #[.slice a l.length p] 57)) 28 #[.slice none 0 0] (n := w.heap.size + 1) (by simp)).on (ch_alloc (Below.refl _ _) (.cells #[.slice none 0 0] 28))
  have HO := Own.at ((w.alloc (.cells #[.slice a l.length p] 57)).alloc (.cells #[.slice none 0 0] 28)) 28 #[.slice none 0 0] (n := w.heap.size + 1 + 1) (by simp)
  have hs0 : w.heap.size + 1 + 1 + 1 ≤ (((w.alloc (.cells #[.slice a l.length p] 57)).alloc (.cells #[.slice none 0 0] 28)).alloc (.cells #[.slice none 0 0] 28)).heap.size := by simp
  generalize (((w.alloc (.cells #[.slice a l.length p] 57)).alloc (.cells #[.slice none 0 0] 28)).alloc (.cells #[.slice none 0 0] 28)) = u0 at hb0 HQ HO hs0 ⊢
  refine (HS.out _ hb0).mono ?_
  rintro e w1 ⟨B, rfl, hB, b1, hy⟩
  have HF1 : Hid (Fill w1 B 5 1 l.length (l.map byX)) := hy
  have hlt := hy.lt
  have hb1 := ch_trans hb0 b1
  have HO1 := HO.on b1
  have HQ1 := HQ.on b1
  clear hy b1 HO HQ hb0 HS
  have d0 := HO1.loc 0 (by simp)
  have g0 := HQ1.loc 0 (by simp)
  have f0 := HO1.frozen 0
  have i0 := HQ1.frozen 0
  simp only [List.getElem_toArray, List.getElem_cons_zero] at d0 g0
  go_wp2
  have HQ4 : Own ((w1.setCell ⟨w.heap.size + 1 + 1, 0, none⟩ (.slice (some ⟨B, 0, none⟩) l.length l.length)).setCell ⟨w.heap.size + 1, 0, none⟩ (.slice (some ⟨B, 0, none⟩) l.length l.length)) _ _ #[.slice (some ⟨B, 0, none⟩) l.length l.length] := (Own.past (c := w.heap.size + 1 + 1) (by omega) [.slice (some ⟨B, 0, none⟩) l.length l.length] _ 0 HQ1).fill (old := [_]) [.slice (some ⟨B, 0, none⟩) l.length l.length] rfl
  have HF4 : Hid (Fill ((w1.setCell ⟨w.heap.size + 1 + 1, 0, none⟩ (.slice (some ⟨B, 0, none⟩) l.length l.length)).setCell ⟨w.heap.size + 1, 0, none⟩ (.slice (some ⟨B, 0, none⟩) l.length l.length)) B 5 1 l.length (l.map byX)) := (HF1.out.other (p := ⟨w.heap.size + 1 + 1, 0, none⟩) (by simp; omega) _).other (p := ⟨w.heap.size + 1, 0, none⟩) (by simp; omega) _
  have HB : Hid (Below w.heap.size w ((w1.setCell ⟨w.heap.size + 1 + 1, 0, none⟩ (.slice (some ⟨B, 0, none⟩) l.length l.length)).setCell ⟨w.heap.size + 1, 0, none⟩ (.slice (some ⟨B, 0, none⟩) l.length l.length))) := by
    show Below _ _ _
    exact stores_below (b := w.heap.size + 1) (by omega) [.slice (some ⟨B, 0, none⟩) l.length l.length] _ 0 (stores_below (b := w.heap.size + 1 + 1) (by omega) [.slice (some ⟨B, 0, none⟩) l.length l.length] _ 0 hb1)
  have hz4 : B < ((w1.setCell ⟨w.heap.size + 1 + 1, 0, none⟩ (.slice (some ⟨B, 0, none⟩) l.length l.length)).setCell ⟨w.heap.size + 1, 0, none⟩ (.slice (some ⟨B, 0, none⟩) l.length l.length)).heap.size := HF4.out.lt
  generalize ((w1.setCell ⟨w.heap.size + 1 + 1, 0, none⟩ (.slice (some ⟨B, 0, none⟩) l.length l.length)).setCell ⟨w.heap.size + 1, 0, none⟩ (.slice (some ⟨B, 0, none⟩) l.length l.length)) = W at HQ4 HB HF4 hz4 ⊢
  have e0 := HQ4.loc 0 (by simp)
  simp only [List.getElem_toArray, List.getElem_cons_zero] at e0
  exact bodyPost_ret (v := .agg #[.slice (some ⟨B, 0, none⟩) l.length l.length]) (by simp [results, Tryz.results25, go_sem, e0]) rfl ⟨_, rfl, by omega, hz4, HB.out, HF4.out⟩

set_option maxRecDepth 100000 in
/-- laws.eqPack -/
theorem eqPack_same (v v' : Value) (l : List UInt8) (w : World) (hv : BytesV w v l) (hv' : BytesV w v' l) :
    Calls Tryz.prog 10 #[.agg #[v], .agg #[v']] w fun e w' => e = .returned (.bool true) ∧ Below w.heap.size w w' := by
  have HE : Hid (∀ u : World, Below w.heap.size w u → Calls Tryz.prog 19 #[v, v'] u fun e w' => e = .returned (.bool true) ∧ Below u.heap.size u w') := fun u hu => eqByteS_same v v' l u (hv.on hu) (hv'.on hu)
  obtain ⟨a, p, rfl, _, _, _⟩ := hv.lit
  obtain ⟨a', p', rfl, _, _, _⟩ := hv'.lit
  clear hv hv'
  go_enter Tryz.func10, Tryz.ntmps10
  go_wp2_with fail
  refine (HE.out _ (by repeat (first | with_reducible exact Below.refl _ _ | with_reducible assumption | with_reducible refine ch_alloc ?_ _ | with_reducible refine Below.drew ?_ | with_reducible refine below_draws _ ?_ | (with_reducible refine Below.setCell ?_ ?_ _; rotate_left; focus (first | with_reducible exact Nat.le_refl _ | (simp; done) | (simp; omega) | (simp at *; omega))) | with_reducible refine ch_trans ?_ (by with_reducible assumption)))).mono ?_
  rintro e w1 ⟨rfl, b1⟩
  go_wp2
  go_ret
  exact ⟨rfl, (by repeat (first | with_reducible exact Below.refl _ _ | with_reducible assumption | with_reducible refine ch_alloc ?_ _ | with_reducible refine Below.drew ?_ | with_reducible refine below_draws _ ?_ | (with_reducible refine Below.setCell ?_ ?_ _; rotate_left; focus (first | with_reducible exact Nat.le_refl _ | (simp; done) | (simp; omega) | (simp at *; omega))) | with_reducible refine ch_trans ?_ (by with_reducible assumption)))⟩

set_option maxRecDepth 100000 in
/-- laws.markPack, from laws.markByteS -/
theorem markPack_of {R : World → Prop} (a : Option Addr) (n c : Nat) (k m : Nat) (w : World) (h : Calls Tryz.prog 20 #[.slice a n c, .int .i64 k] (w.alloc (.cells #[.slice a n c] 28)) fun e w' => e = .returned (.int .i64 (m : Int)) ∧ R w') :
    Calls Tryz.prog 13 #[.agg #[.slice a n c], .int .i64 k] w fun e w' => e = .returned (.int .i64 (m : Int)) ∧ R w' := by
  have HH : Hid (Calls Tryz.prog 20 #[.slice a n c, .int .i64 k] (w.alloc (.cells #[.slice a n c] 28)) fun e w' => e = .returned (.int .i64 (m : Int)) ∧ R w') := h
  clear h
  go_enter Tryz.func13, Tryz.ntmps13
  go_wp2_with fail
  refine HH.out.mono ?_
  rintro e w1 ⟨rfl, hR⟩
  have HR : Hid (R w1) := hR
  clear hR HH
  go_wp2
  go_ret
  exact ⟨rfl, HR.out⟩

set_option maxRecDepth 100000 in
/-- laws.heldPack, from laws.heldByteS -/
theorem heldPack_of {R : World → Prop} (a : Option Addr) (n c : Nat) (k m : Nat) (w : World) (h : Calls Tryz.prog 38 #[.slice a n c, .int .i64 k] (w.alloc (.cells #[.slice a n c] 28)) fun e w' => e = .returned (.int .i64 (m : Int)) ∧ R w') :
    Calls Tryz.prog 14 #[.agg #[.slice a n c], .int .i64 k] w fun e w' => e = .returned (.int .i64 (m : Int)) ∧ R w' := by
  have HH : Hid (Calls Tryz.prog 38 #[.slice a n c, .int .i64 k] (w.alloc (.cells #[.slice a n c] 28)) fun e w' => e = .returned (.int .i64 (m : Int)) ∧ R w') := h
  have hm : decide ((m : Int) < 0) = false := by simp
  clear h
  go_enter Tryz.func14, Tryz.ntmps14
  go_wp2_with fail
  refine HH.out.mono ?_
  rintro e w1 ⟨rfl, hR⟩
  have HR : Hid (R w1) := hR
  clear hR HH
  go_wp2
  go_ret
  exact ⟨rfl, HR.out⟩

/-- How many bytes are left. -/
def cutN (n : Int) (l : List UInt8) : Nat := min n.toNat l.length
theorem Got.setP {w : World} {B : Nat} {T : TypeId} {z : Nat} {v : Value} {xs : List (Array Value)} (h : Got w B T z v xs) {p : Addr} (hp : p.block < B) (u : Value) : Got (w.setCell p u) B T z v xs :=
  h.turns ((Turns.refl (· = p.block) w).set rfl u) fun c hc => by have hc : c = p.block := hc; omega
/-- The end of PackCut: its answer is put into its block. -/
theorem cut_end {w W w1 : World} {kv : Value} {xs : List (Array Value)} (hW : Below w.heap.size w W) (HQ : Own W (w.heap.size + 1) 28 #[.slice none 0 0]) (b1 : Below (w.heap.size + 1 + 1) W w1) (hg : Got w1 (w.heap.size + 1 + 1) 5 1 kv xs) :
    (w1.setCell ⟨w.heap.size + 1, 0, none⟩ kv).cell? ⟨w.heap.size + 1, 0, none⟩ = some kv ∧ Below w.heap.size w (w1.setCell ⟨w.heap.size + 1, 0, none⟩ kv) ∧ Got (w1.setCell ⟨w.heap.size + 1, 0, none⟩ kv) w.heap.size 5 1 kv xs := by
  have HQ1 : Own w1 (w.heap.size + 1) 28 #[.slice none 0 0] := (b1.block _ (by omega)).trans HQ
  refine ⟨?_, ?_, ?_⟩
  · have := (HQ1.set 0 kv).loc 0 (by simp)
    simpa using this
  · exact stores_below (b := w.heap.size + 1) (by omega) [kv] _ 0 (hW.trans (b1.mono (by omega)))
  · exact (hg.setP (p := ⟨w.heap.size + 1, 0, none⟩) (by simp) kv).mono (by omega)
theorem cut_own {w W w1 : World} (HQ : Own W (w.heap.size + 1) 28 #[.slice none 0 0]) (b1 : Below (w.heap.size + 1 + 1) W w1) : w1.cell? ⟨w.heap.size + 1, 0, none⟩ = some (.slice none 0 0) ∧ w1.frozen? ⟨w.heap.size + 1, 0, none⟩ = false := by
  have HQ1 : Own w1 (w.heap.size + 1) 28 #[.slice none 0 0] := (b1.block _ (by omega)).trans HQ
  exact ⟨HQ1.loc 0 (by simp), HQ1.frozen 0⟩
end Go.Proofs.YtikccmgpmbnkfaaGreat
