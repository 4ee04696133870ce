/- The landed reader of bytes: values, ReadVals. -/
import Derived.Test.YtihilcffmdjhhaoRi
namespace Go.Proofs.Ytihilcffmdjhhao
open Go.ChangeShapes Go.WideShapes Go.ChangeAt Go.RowKit

theorem Turns.low {S : Nat → Prop} {a b c : World} (h : Turns S a b) (k : Below a.heap.size b c) : Turns S a c :=
  ⟨k.os.trans h.os, k.tape.trans h.tape, k.output.trans h.output, Nat.le_trans h.size k.size, fun i hi hn => (k.block i hi).trans (h.block i hi hn)⟩
theorem RdB.low {w w' : World} {R B : Nat} {l : List UInt8} (h : RdB w R l) (hR : R < B) (k : Below B w w') : RdB w' R l := by
  obtain ⟨b, off, cap, ho, hb, h3, h4, hr⟩ := h
  refine ⟨b, off, cap, (k.block R hR).trans ho, hb, h3, h4, hr.1, ?_⟩
  rcases hr.2 with h0 | ⟨b', off', e, h1⟩
  · exact Or.inl h0
  · cases e
    exact Or.inr ⟨b, off, rfl, fun i hi j hj => (k.cell (p := ⟨b, off + i * 1 + j, none⟩) (Nat.lt_trans hb hR)).trans (h1 i hi j hj)⟩
set_option maxRecDepth 100000 in
set_option maxHeartbeats 1000000 in
/-- impl.readMany of values -/
theorem readMany_any (R : Nat) (l : List UInt8) (w : World) (h : RdB w R l) :
    Calls Try.prog 100 #[.pointer (some ⟨R, 0, none⟩), .func (.func 101) #[] #[]] w fun e w' => ∃ v, e = .returned v ∧ Got w' w.heap.size 104 3 v ((rdVs (rdN 1 l) (l.drop 1)).1.map Vc.cells) ∧ Turns (· = R) w w' := by
  have HN : Hid (Calls Try.prog 95 #[.pointer (some ⟨R, 0, none⟩), .int .i64 1] w fun e w' => e = .returned (.int .i64 (rdN 1 l : Int)) ∧ RdB w' R (l.drop 1) ∧ Turns (· = R) w w') := num_any R 1 l w h (by omega) (by omega)
  have hRw : R < w.heap.size := by obtain ⟨_, _, _, ho, _⟩ := h; exact ho.lt
  have hn256 := rdN_byte l
  clear h
  generalize l.drop 1 = D at HN ⊢
  generalize rdN 1 l = N at HN hn256 ⊢
  go_enter Try.func100, Try.ntmps100
  go_wp2_with fail
  refine HN.out.mono ?_
  rintro e w1 ⟨rfl, hd, ht⟩
  have HD : Hid (RdB w1 R D) := hd
  have HT : Hid (Turns (· = R) w w1) := ht
  clear hd ht
  go_wp2
  go_loopw [5, 8] (fun q i wr => ∃ (k : Nat) (vs : List Vc) (cur : List UInt8), k ≤ N ∧ i = .int .i64 (k : Int) ∧ vs.length = k ∧ Hid (vs ++ (rdVs (N - k) cur).1 = (rdVs N D).1) ∧ Hid (RdB wr R cur) ∧ Hid (Turns (· = R) w wr) ∧ Hid (Got wr w.heap.size 104 3 q (vs.map Vc.cells))) (fun _ i _ => N - (intOf i).toNat)
  case atStart => exact ⟨0, [], D, Nat.zero_le _, rfl, rfl, rfl, HD, HT, Got.nil _ _ _ _⟩
  case round =>
    clear HD HT
    obtain ⟨k, vs, cur, hk, rfl, hvk, HE, HD, HT, HG⟩ := hrel
    obtain ⟨a1, n1, c1, rfl, hg⟩ := HG.out.lit2
    have HG1 : Hid (Got wr w.heap.size 104 3 (.slice a1 n1 c1) (vs.map Vc.cells)) := hg
    clear hg HG
    by_cases hlt : k < N
    · have hlti : (k : Int) < N := by omega
      have HVA : Hid (Calls Try.prog 101 #[.pointer (some ⟨R, 0, none⟩)] wr fun e w' => e = .returned (.agg (rdV cur).1.cells) ∧ RdB w' R (rdV cur).2 ∧ Turns (· = R) wr w') := val_any R cur wr HD.out
      have HE' : Hid ((vs ++ [(rdV cur).1]) ++ (rdVs (N - (k + 1)) (rdV cur).2).1 = (rdVs N D).1) := by
        show _ = _
        rw [← HE.out, show N - k = (N - (k + 1)) + 1 by omega, List.append_assoc]; rfl
      generalize (rdV cur).2 = nxt at HVA HE'
      generalize (rdV cur).1 = c at HVA HE'
      obtain ⟨ty, n, x⟩ := c
      go_wp2_with fail
      refine HVA.out.mono ?_
      rintro e w2 ⟨rfl, hd, ht⟩
      have HD2 : Hid (RdB w2 R nxt) := hd
      have HT2 : Hid (Turns (· = R) w w2) := HT.out.trans ht
      have HG2 : Hid (Got w2 w.heap.size 104 3 (.slice a1 n1 c1) (vs.map Vc.cells)) := HG1.out.turns ht fun c h => by have h : c = R := h; omega
      have hs2 : w.heap.size ≤ w2.heap.size := HT2.out.size
      clear hd ht
      go_wp2_with (at_builtin; refine app_one rfl (.tmp 10) (.tmp 14) rfl Try.underlying35 infoVal rfl (by decide) (by decide) w.heap.size _ (vs.map Vc.cells) rfl (HG2.out.on (ch_alloc (Below.refl _ _) _)) w2.heap.size 1 #[.int .i64 ty, .int .i64 n, .string x] rfl (Loc.new _ _ _) rfl (val_one ⟨ty, n, x⟩) (by simp; omega) (by simp; omega) ?_; intro v3 w3 hg3 hb3)
      have HG3 : Hid (Got w3 w.heap.size 104 3 v3 ((vs ++ [(⟨ty, n, x⟩ : Vc)]).map Vc.cells)) := by
        show Got _ _ _ _ _ _
        rw [List.map_append]; exact hg3
      have hb23 : Below w.heap.size w2 w3 := (Below.alloc (Below.refl _ _) hs2 _).trans hb3
      have HD3 : Hid (RdB w3 R nxt) := HD2.out.low hRw hb23
      have HT3 : Hid (Turns (· = R) w w3) := HT2.out.low hb23
      clear hg3 hb3 hb23
      go_round
      case rel => exact ⟨k + 1, vs ++ [⟨ty, n, x⟩], nxt, by omega, by go_num, by simp; omega, HE', HD3, HT3, HG3⟩
      case measure => simp [intOf]; omega
    · have hlti : (N : Int) ≤ k := by omega
      have HF : Hid (vs = (rdVs N D).1) := by
        have := HE.out
        rw [show N - k = 0 by omega, rdVs] at this
        show vs = _
        simpa using this
      go_wp2
      go_ret
      exact ⟨_, rfl, by rw [← HF.out]; exact HG1.out, HT.out⟩
set_option maxRecDepth 100000 in
set_option maxHeartbeats 1000000 in
/-- impl.readVals -/
theorem readVals_any (R : Nat) (l : List UInt8) (w : World) (h : RdB w R l) :
    Calls Try.prog 62 #[.pointer (some ⟨R, 0, none⟩)] w fun e w' => ∃ v, e = .returned v ∧ Got w' w.heap.size 104 3 v ((rdVs (rdN 1 l) (l.drop 1)).1.map Vc.cells) ∧ Turns (· = R) w w' := by
  have HM := readMany_any R l w h
  have HM' : Hid (Calls Try.prog 100 #[.pointer (some ⟨R, 0, none⟩), .func (.func 101) #[] #[]] w fun e w' => ∃ v, e = .returned v ∧ Got w' w.heap.size 104 3 v ((rdVs (rdN 1 l) (l.drop 1)).1.map Vc.cells) ∧ Turns (· = R) w w') := HM
  clear HM h
  generalize (rdVs (rdN 1 l) (l.drop 1)).1 = vs at HM' ⊢
  go_enter Try.func62, Try.ntmps62
  go_wp2_with fail
  refine HM'.out.mono ?_
  rintro e w1 ⟨v, rfl, hg, ht⟩
  have HG : Hid (Got w1 w.heap.size 104 3 v (vs.map Vc.cells)) := hg
  have HT : Hid (Turns (· = R) w w1) := ht
  clear hg ht
  go_wp2
  go_ret
  exact ⟨_, rfl, HG.out, HT.out⟩

set_option maxRecDepth 100000 in
set_option maxHeartbeats 1000000 in
/-- bytes.Equal -/
theorem bytesEqual_any (v v' : Value) (l l' : List UInt8) (w : World) (h : Hid (∃ b off cap, v = .slice (some ⟨b, off, none⟩) l.length cap ∧ RowAt w (some ⟨b, off, none⟩) 1 (l.map byX))) (h' : Hid (∃ b off cap, v' = .slice (some ⟨b, off, none⟩) l'.length cap ∧ RowAt w (some ⟨b, off, none⟩) 1 (l'.map byX))) :
    Calls Try.prog 93 #[v, v'] w fun e w' => ∃ q : Bool, e = .returned (.bool q) ∧ (q = true ↔ l = l') ∧ Below w.heap.size w w' := by
  obtain ⟨b, off, cap, rfl, hr⟩ := h.out
  obtain ⟨b', off', cap', rfl, hr'⟩ := h'.out
  have hcv := conv_back w b off cap l hr
  have hcv' := conv_back w b' off' cap' l' hr'
  clear h h' hr hr'
  go_enter Try.func93, Try.ntmps93
  go_wp2
  go_ret
  exact ⟨_, rfl, by simp, (by repeat (first | with_reducible exact Below.refl _ _ | with_reducible assumption | with_reducible refine ch_alloc ?_ _ | with_reducible refine Below.drew ?_ | with_reducible refine below_draws _ ?_ | (with_reducible refine Below.setCell ?_ ?_ _; rotate_left; focus (first | with_reducible exact Nat.le_refl _ | (simp; done) | (simp; omega) | (simp at *; omega))) | with_reducible refine ch_trans ?_ (by with_reducible assumption)))⟩
/-- What bytes are read as: the row whose bytes they are. -/
def isRow (l : List UInt8) (vs : List Vc) (q : Bool) : Prop := (q = true ∧ okRow vs ∧ rowL vs = l) ∨ (q = false ∧ (∀ us, okRow us → rowL us ≠ l) ∧ vs = [])
theorem isRow.unique {l : List UInt8} {vs us : List Vc} {q r : Bool} (h : isRow l vs q) (k : isRow l us r) : vs = us ∧ q = r := by
  rcases h with ⟨h1, h2, h3⟩ | ⟨h1, h2, h3⟩
  · rcases k with ⟨k1, k2, k3⟩ | ⟨k1, k2, k3⟩
    · have e1 := rdVs_rowL vs h2
      have e2 := rdVs_rowL us k2
      rw [h3] at e1
      rw [k3, e1] at e2
      simp at e2
      exact ⟨e2, h1.trans k1.symm⟩
    · exact absurd h3 (k2 vs h2)
  · rcases k with ⟨k1, k2, k3⟩ | ⟨k1, k2, k3⟩
    · exact absurd k3 (h2 us k2)
    · exact ⟨h3.trans k3.symm, h1.trans k1.symm⟩
theorem Got.someV {w : World} {B : Nat} {T : TypeId} {v : Value} {l : List UInt8} (h : Got w B T 1 v (l.map byX)) (h0 : 1 ≤ l.length) : ∃ b off cap, v = .slice (some ⟨b, off, none⟩) l.length cap ∧ RowAt w (some ⟨b, off, none⟩) 1 (l.map byX) := by
  obtain ⟨a, cap, e, _, _, h3, _⟩ := h.row
  obtain ⟨b, off, rfl, _⟩ := h3.bytes 0 h0
  exact ⟨b, off, cap, by simpa using e, h3⟩
set_option maxRecDepth 100000 in
set_option maxHeartbeats 1000000 in
/-- impl.readBytes of values -/
theorem readBytes_any (b off cap : Nat) (l : List UInt8) (w : World) (hb : b < w.heap.size) (hlc : l.length ≤ cap) (hcm : cap ≤ maxLen) (hr : RowAt w (some ⟨b, off, none⟩) 1 (l.map byX)) :
    Calls Try.prog 61 #[.slice (some ⟨b, off, none⟩) l.length cap, .func (.func 62) #[] #[], .func (.func 63) #[] #[]] w fun e w' => ∃ v vs q, e = .returned (.tuple #[v, .bool q]) ∧ isRow l vs q ∧ Got w' w.heap.size 104 3 v (vs.map Vc.cells) ∧ Below w.heap.size w w' := by
  have HR : Hid (RowAt w (some ⟨b, off, none⟩) 1 (l.map byX)) := hr
  have HRD : Hid (RdB (w.alloc (.cells #[.slice (some ⟨b, off, none⟩) l.length cap] 132)) w.heap.size l) := ⟨b, off, cap, Own.new _ _ _, hb, hlc, hcm, HR.out.on (by repeat (first | with_reducible exact Below.refl _ _ | with_reducible assumption | with_reducible refine ch_alloc ?_ _ | with_reducible refine Below.drew ?_ | with_reducible refine below_draws _ ?_ | (with_reducible refine Below.setCell ?_ ?_ _; rotate_left; focus (first | with_reducible exact Nat.le_refl _ | (simp; done) | (simp; omega) | (simp at *; omega))) | with_reducible refine ch_trans ?_ (by with_reducible assumption)))⟩
  clear hr
  have HRV : Hid (Calls Try.prog 62 #[.pointer (some ⟨w.heap.size, 0, none⟩)] (w.alloc (.cells #[.slice (some ⟨b, off, none⟩) l.length cap] 132)) fun e w' => ∃ v, e = .returned v ∧ Got w' (w.alloc (.cells #[.slice (some ⟨b, off, none⟩) l.length cap] 132)).heap.size 104 3 v ((rdVs (rdN 1 l) (l.drop 1)).1.map Vc.cells) ∧ Turns (· = w.heap.size) (w.alloc (.cells #[.slice (some ⟨b, off, none⟩) l.length cap] 132)) w') := readVals_any _ l _ HRD.out
  have HU : Hid (∀ us, okRow us → rowL us = l → (rdVs (rdN 1 l) (l.drop 1)).1 = us) := fun us h1 h2 => by
    have := rdVs_rowL us h1
    rw [h2] at this
    rw [this]
  generalize (rdVs (rdN 1 l) (l.drop 1)).1 = vs at HRV HU
  go_enter Try.func61, Try.ntmps61
  go_wp2_with fail
  refine HRV.out.mono ?_
  rintro e w1 ⟨v, rfl, hg, ht⟩
  rw [show (w.alloc (.cells #[.slice (some ⟨b, off, none⟩) l.length cap] 132)).heap.size = w.heap.size + 1 from by simp] at hg
  obtain ⟨a1, n1, c1, rfl, hg⟩ := hg.lit2
  have HG : Hid (Got w1 w.heap.size 104 3 (.slice a1 n1 c1) (vs.map Vc.cells)) := hg.mono (by omega)
  have hb1 : Below w.heap.size w w1 := (ch_alloc (Below.refl _ _) _).trans (ht.toBelow (fun c h => by have h : c = w.heap.size := h; omega) (by simp))
  clear hg ht HRV HRD
  obtain ⟨qr, Lr, hqr⟩ : ∃ (q : Bool) (L : List UInt8), (q = true ∧ okRow vs ∧ L = rowL vs) ∨ (q = false ∧ ¬ okRow vs ∧ L = []) := by
    by_cases h : okRow vs
    · exact ⟨true, _, Or.inl ⟨rfl, h, rfl⟩⟩
    · exact ⟨false, _, Or.inr ⟨rfl, h, rfl⟩⟩
  have HRB : Hid (∀ u : World, ValsV u (.slice a1 n1 c1) vs → Calls Try.prog 63 #[.slice a1 n1 c1] u fun e w' => ∃ v', e = .returned (.tuple #[v', .bool qr]) ∧ Below u.heap.size u w' ∧ Got w' u.heap.size 5 1 v' (Lr.map byX)) := fun u hu => rowBytes_impl _ vs u hu qr Lr hqr
  go_wp2_with fail
  refine (HRB.out _ HG.out.vals).mono ?_
  rintro e w2 ⟨v2, rfl, b2, hg2⟩
  rcases hqr with ⟨rfl, hok, rfl⟩ | ⟨rfl, hok, rfl⟩
  · obtain ⟨bb, bo, bc, rfl, hr2⟩ := hg2.someV (by simp [rowL])
    have HE : Hid (Calls Try.prog 93 #[.slice (some ⟨bb, bo, none⟩) (rowL vs).length bc, .slice (some ⟨b, off, none⟩) l.length cap] w2 fun e w' => ∃ q : Bool, e = .returned (.bool q) ∧ (q = true ↔ rowL vs = l) ∧ Below w2.heap.size w2 w') := bytesEqual_any _ _ (rowL vs) l w2 ⟨bb, bo, bc, rfl, hr2⟩ ⟨b, off, cap, rfl, HR.out.on (by repeat (first | with_reducible exact Below.refl _ _ | with_reducible assumption | with_reducible refine ch_alloc ?_ _ | with_reducible refine Below.drew ?_ | with_reducible refine below_draws _ ?_ | (with_reducible refine Below.setCell ?_ ?_ _; rotate_left; focus (first | with_reducible exact Nat.le_refl _ | (simp; done) | (simp; omega) | (simp at *; omega))) | with_reducible refine ch_trans ?_ (by with_reducible assumption)))⟩
    have HG2 : Hid (Got w2 w.heap.size 104 3 (.slice a1 n1 c1) (vs.map Vc.cells)) := HG.out.on b2
    have HOK : Hid (okRow vs) := hok
    have hb2 : Below w.heap.size w w2 := (by repeat (first | with_reducible exact Below.refl _ _ | with_reducible assumption | with_reducible refine ch_alloc ?_ _ | with_reducible refine Below.drew ?_ | with_reducible refine below_draws _ ?_ | (with_reducible refine Below.setCell ?_ ?_ _; rotate_left; focus (first | with_reducible exact Nat.le_refl _ | (simp; done) | (simp; omega) | (simp at *; omega))) | with_reducible refine ch_trans ?_ (by with_reducible assumption)))
    clear hg2 hr2 HRB b2 hok
    generalize (rowL vs).length = nl at HE ⊢
    go_wp2_with fail
    refine HE.out.mono ?_
    rintro e w3 ⟨q, rfl, hq, b3⟩
    have HB3 : Hid (Below w.heap.size w w3) := by show Below _ _ _; exact (by repeat (first | with_reducible exact Below.refl _ _ | with_reducible assumption | with_reducible refine ch_alloc ?_ _ | with_reducible refine Below.drew ?_ | with_reducible refine below_draws _ ?_ | (with_reducible refine Below.setCell ?_ ?_ _; rotate_left; focus (first | with_reducible exact Nat.le_refl _ | (simp; done) | (simp; omega) | (simp at *; omega))) | with_reducible refine ch_trans ?_ (by with_reducible assumption)))
    have HG3 : Hid (Got w3 w.heap.size 104 3 (.slice a1 n1 c1) (vs.map Vc.cells)) := HG2.out.on b3
    have HQ : Hid (q = true ↔ rowL vs = l) := hq
    clear b3 hq hb2 HE
    cases q with
    | true =>
      have HI : Hid (isRow l vs true) := Or.inl ⟨rfl, HOK.out, HQ.out.1 rfl⟩
      clear HQ
      go_wp2
      go_ret2
      exact ⟨_, vs, true, rfl, HI.out, HG3.out, HB3.out⟩
    | false =>
      have HI : Hid (isRow l [] false) := Or.inr ⟨rfl, fun us h1 h2 => by
        have e := HU.out us h1 h2
        subst e
        exact absurd (HQ.out.2 h2) (by simp), rfl⟩
      clear HQ
      go_wp2
      go_ret2
      exact ⟨_, [], false, rfl, HI.out, Got.nil _ _ _ _, HB3.out⟩
  · have HI : Hid (isRow l [] false) := Or.inr ⟨rfl, fun us h1 h2 => by
      have e := HU.out us h1 h2
      subst e
      exact hok h1, rfl⟩
    have HB2 : Hid (Below w.heap.size w w2) := by show Below _ _ _; exact (by repeat (first | with_reducible exact Below.refl _ _ | with_reducible assumption | with_reducible refine ch_alloc ?_ _ | with_reducible refine Below.drew ?_ | with_reducible refine below_draws _ ?_ | (with_reducible refine Below.setCell ?_ ?_ _; rotate_left; focus (first | with_reducible exact Nat.le_refl _ | (simp; done) | (simp; omega) | (simp at *; omega))) | with_reducible refine ch_trans ?_ (by with_reducible assumption)))
    obtain ⟨a2, n2, c2, rfl, _⟩ := hg2.lit2
    clear hg2 HRB b2 hok
    go_wp2
    go_ret2
    exact ⟨_, [], false, rfl, HI.out, Got.nil _ _ _ _, HB2.out⟩
set_option maxRecDepth 100000 in
set_option maxHeartbeats 1000000 in
/-- impl.ReadVals -/
theorem readVals_impl (b off cap : Nat) (l : List UInt8) (w : World) (hb : b < w.heap.size) (hlc : l.length ≤ cap) (hcm : cap ≤ maxLen) (hr : RowAt w (some ⟨b, off, none⟩) 1 (l.map byX)) :
    Calls Try.prog 22 #[.slice (some ⟨b, off, none⟩) l.length cap] w fun e w' => ∃ v vs q, e = .returned (.tuple #[v, .bool q]) ∧ isRow l vs q ∧ Got w' w.heap.size 104 3 v (vs.map Vc.cells) ∧ Below w.heap.size w w' := by
  have HB : Hid (Calls Try.prog 61 #[.slice (some ⟨b, off, none⟩) l.length cap, .func (.func 62) #[] #[], .func (.func 63) #[] #[]] w fun e w' => ∃ v vs q, e = .returned (.tuple #[v, .bool q]) ∧ isRow l vs q ∧ Got w' w.heap.size 104 3 v (vs.map Vc.cells) ∧ Below w.heap.size w w') := readBytes_any b off cap l w hb hlc hcm hr
  clear hr
  go_enter Try.func22, Try.ntmps22
  go_wp2_with fail
  refine HB.out.mono ?_
  rintro e w1 ⟨v, vs, q, rfl, hi, hg, hb1⟩
  have HI : Hid (isRow l vs q) := hi
  have HG : Hid (Got w1 w.heap.size 104 3 v (vs.map Vc.cells)) := hg
  clear hi hg
  go_wp2
  go_ret2
  exact ⟨_, vs, q, rfl, HI.out, HG.out, hb1⟩
end Go.Proofs.Ytihilcffmdjhhao
