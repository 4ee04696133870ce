/- The given reader of bytes: values, ReadVals. -/
import Derived.Test.YtihilcffmdjhhaoRs3
namespace Go.Proofs.Ytihilcffmdjhhao
open Go.ChangeShapes Go.WideShapes Go.ChangeAt Go.RowKit

theorem spV_le (l : List UInt8) (p : Nat) : (spV l p).2 ≤ p + 300 ∨ (spV l p).2 ≤ l.length + 1 := by
  unfold spV
  split
  · exact Or.inl (by simp)
  split
  · exact Or.inl (by simp)
  split
  · simp only [spT]
    split
    · exact Or.inl (by have := rdN_byte (l.drop (p + 1)); simp only; omega)
    · exact Or.inr (by simp)
  · exact Or.inl (by simp)
theorem SdB.low {w w' : World} {R B p : Nat} {l : List UInt8} (h : SdB w R l p) (hR : R < B) (k : Below B w w') : SdB w' R l p := by
  obtain ⟨b, off, cap, ho, hb, h3, h4, hr⟩ := h
  refine ⟨b, off, cap, (k.block R hR).trans ho, hb, h3, h4, hr.1, ?_⟩
  rcases hr.2 with h0 | ⟨b', off', e, h1⟩
  · exact Or.inl h0
  · cases e
    exact Or.inr ⟨b, off, rfl, fun i hi j hj => (k.cell (p := ⟨b, off + i * 1 + j, none⟩) (Nat.lt_trans hb hR)).trans (h1 i hi j hj)⟩
set_option maxRecDepth 100000 in
set_option maxHeartbeats 1000000 in
/-- spec.l06Vals -/
theorem l06Vals_any (R : Nat) (l : List UInt8) (w : World) (h : SdB w R l 0) (hl : l.length ≤ 1048576) :
    Calls Try.prog 55 #[.pointer (some ⟨R, 0, none⟩)] w fun e w' => ∃ v, e = .returned v ∧ Got w' w.heap.size 104 3 v ((spVs (min (rdN 1 l) 9) l 1).1.map Vc.cells) ∧ Turns (· = R) w w' := by
  have HN : Hid (∀ u : World, SdB u R l 0 → Calls Try.prog 53 #[.pointer (some ⟨R, 0, none⟩), .int .i64 1] u fun e w' => e = .returned (.int .i64 (rdN 1 l : Int)) ∧ SdB w' R l 1 ∧ Turns (· = R) u w') := fun u hu => l06Take_any R 1 0 l u hu (by omega) (by omega) (by omega)
  have HR : Hid (SdB w R l 0) := h
  have hRw : R < w.heap.size := by obtain ⟨_, _, _, ho, _⟩ := h; exact ho.lt
  have hn256 := rdN_byte l
  clear h
  generalize rdN 1 l = N at HN hn256 ⊢
  go_enter Try.func55, Try.ntmps55
  go_wp2_with fail
  refine (HN.out _ (HR.out.on (by repeat (first | with_reducible exact Below.refl _ _ | with_reducible assumption | with_reducible refine ch_alloc ?_ _ | with_reducible refine Below.drew ?_ | with_reducible refine below_draws _ ?_ | (with_reducible refine Below.setCell ?_ ?_ _; rotate_left; focus (first | with_reducible exact Nat.le_refl _ | (simp; done) | (simp; omega) | (simp at *; omega))) | with_reducible refine ch_trans ?_ (by with_reducible assumption))))).mono ?_
  rintro e w1 ⟨rfl, hd, ht⟩
  have HD : Hid (SdB w1 R l 1) := hd
  have HG : Hid (Got w1 w.heap.size 104 3 (.slice (some ⟨w.heap.size, 0, none⟩) 0 0) (([] : List Vc).map Vc.cells)) := (Got.empty w 104 3).turns ht fun c h => by have h : c = R := h; omega
  have HT : Hid (Turns (· = R) w w1) := ((Turns.refl (· = R) w).below (ch_alloc (Below.refl _ _) _)).trans ht
  clear hd ht
  go_wp2
  go_loopw [3, 5] (fun q i wr => ∃ (k : Nat) (vs : List Vc) (cur : Nat), k ≤ min N 9 ∧ i = .int .i64 (k : Int) ∧ vs.length = k ∧ cur ≤ 1048600 + 300 * k ∧ Hid (vs ++ (spVs (min N 9 - k) l cur).1 = (spVs (min N 9) l 1).1) ∧ Hid (SdB wr R l cur) ∧ Hid (Turns (· = R) w wr) ∧ Hid (Got wr w.heap.size 104 3 q (vs.map Vc.cells))) (fun _ i _ => 10 - (intOf i).toNat)
  case atStart => exact ⟨0, [], 1, Nat.zero_le _, rfl, rfl, by omega, rfl, HD, HT, HG⟩
  case round =>
    clear HD HT HG
    obtain ⟨k, vs, cur, hk, rfl, hvk, hcur, HE, HD, HT, HG⟩ := hrel
    obtain ⟨a1, n1, c1, rfl, hg⟩ := HG.out.lit2
    have HG1 : Hid (Got wr w.heap.size 104 3 (.slice a1 n1 c1) (vs.map Vc.cells)) := hg
    have hk9 : k ≤ 9 := by omega
    clear hg HG
    by_cases hlt : k < min N 9
    · have hlti : (k : Int) < N := by omega
      have hlt8 : (k : Int) ≤ 8 := by omega
      have HVA : Hid (Calls Try.prog 92 #[.pointer (some ⟨R, 0, none⟩)] wr fun e w' => e = .returned (.agg (spV l cur).1.cells) ∧ SdB w' R l (spV l cur).2 ∧ Turns (· = R) wr w') := l06Val_any R cur l wr HD.out (by omega) hl
      have HE' : Hid ((vs ++ [(spV l cur).1]) ++ (spVs (min N 9 - (k + 1)) l (spV l cur).2).1 = (spVs (min N 9) l 1).1) := by
        show _ = _
        rw [← HE.out, show min N 9 - k = (min N 9 - (k + 1)) + 1 by omega, List.append_assoc]; rfl
      have hnx : (spV l cur).2 ≤ 1048600 + 300 * (k + 1) := by have := spV_le l cur; omega
      generalize (spV l cur).2 = nxt at HVA HE' hnx
      generalize (spV l cur).1 = c at HVA HE'
      obtain ⟨ty, n, x⟩ := c
      go_wp2_with fail
      refine HVA.out.mono ?_
      rintro e w2 ⟨rfl, hd, ht⟩
      have HD2 : Hid (SdB w2 R l nxt) := hd
      have HT2 : Hid (Turns (· = R) w w2) := HT.out.trans ht
      have HG2 : Hid (Got w2 w.heap.size 104 3 (.slice a1 n1 c1) (vs.map Vc.cells)) := HG1.out.turns ht fun c h => by have h : c = R := h; omega
      have hs2 : w.heap.size ≤ w2.heap.size := HT2.out.size
      clear hd ht
      go_wp2_with (at_builtin; refine app_one rfl (.tmp 18) (.tmp 21) rfl Try.underlying35 infoVal rfl (by decide) (by decide) w.heap.size _ (vs.map Vc.cells) rfl (HG2.out.on (ch_alloc (Below.refl _ _) _)) w2.heap.size 1 #[.int .i64 ty, .int .i64 n, .string x] rfl (Loc.new _ _ _) rfl (val_one ⟨ty, n, x⟩) (by simp; omega) (by simp; omega) ?_; intro v3 w3 hg3 hb3)
      have HG3 : Hid (Got w3 w.heap.size 104 3 v3 ((vs ++ [(⟨ty, n, x⟩ : Vc)]).map Vc.cells)) := by
        show Got _ _ _ _ _ _
        rw [List.map_append]; exact hg3
      have hb23 : Below w.heap.size w2 w3 := (Below.alloc (Below.refl _ _) hs2 _).trans hb3
      have HD3 : Hid (SdB w3 R l nxt) := HD2.out.low hRw hb23
      have HT3 : Hid (Turns (· = R) w w3) := HT2.out.low hb23
      clear hg3 hb3 hb23
      go_round
      case rel => exact ⟨k + 1, vs ++ [⟨ty, n, x⟩], nxt, by omega, by go_num, by simp; omega, hnx, HE', HD3, HT3, HG3⟩
      case measure => simp [intOf]; omega
    · by_cases hN : k < N
      · have hlti : (k : Int) < N := by omega
        have hlt8 : ¬ (k : Int) ≤ 8 := by omega
        have HF : Hid (vs = (spVs (min N 9) l 1).1) := by
          have := HE.out
          rw [show min N 9 - k = 0 by omega, spVs] at this
          show vs = _
          simpa using this
        go_wp2
        go_ret
        exact ⟨_, rfl, by rw [← HF.out]; exact HG1.out, HT.out⟩
      · have hlti : ¬ (k : Int) < N := by omega
        have HF : Hid (vs = (spVs (min N 9) l 1).1) := by
          have := HE.out
          rw [show min N 9 - k = 0 by omega, spVs] at this
          show vs = _
          simpa using this
        go_wp2
        go_ret
        exact ⟨_, rfl, by rw [← HF.out]; exact HG1.out, HT.out⟩
end Go.Proofs.Ytihilcffmdjhhao
