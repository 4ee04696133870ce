/- The given reader of bytes: right rows; the given ReadVals. -/
import Derived.Test.YtihilcffmdjhhaoRs4
namespace Go.Proofs.Ytihilcffmdjhhao
open Go.ChangeShapes Go.WideShapes Go.ChangeAt Go.RowKit

theorem textL_cons (x : ByteArray) : textL x = UInt8.ofNat x.size :: x.data.toList := rfl
theorem spV_val (l : List UInt8) (p : Nat) (c : Vc) (r : List UInt8) (hd : l.drop p = valL c ++ r) (h : okB c.ty c.n c.s = true) : spV l p = (c, p + (valL c).length) := by
  have d1 : l.drop (p + 1) = (valL c ++ r).drop 1 := by rw [← hd, List.drop_drop]
  have d2 : l.drop (p + 1 + 1) = (valL c ++ r).drop 2 := by rw [← hd, List.drop_drop]
  have hlen : l.length - p = (valL c).length + r.length := by
    have := congrArg List.length hd
    simpa using this
  have hpos : 1 ≤ (valL c).length := by simp [valL]
  unfold spV
  rw [hd, d1, d2]
  obtain ⟨ty, n, x⟩ := c
  simp only at h
  have h0 := h
  unfold okB at h0
  rcases okB_ty (c := ⟨ty, n, x⟩) h with h1 | ⟨h1, h2, h3⟩ | ⟨h1, h2, h3⟩ | ⟨h1, h2⟩
  · simp only at h1
    subst h1
    simp at h0
    obtain ⟨rfl, h0⟩ := h0
    obtain rfl := noneS (x := x) (by simpa using h0)
    simp [valL, rdN_one]
  · simp only at h1 h2 h3
    subst h1
    simp at h0
    obtain ⟨_, h0⟩ := h0
    obtain rfl := noneS (x := x) (by simpa using h0)
    obtain ⟨N, rfl⟩ : ∃ N : Nat, n = (N : Int) := ⟨n.toNat, by omega⟩
    have e : (UInt8.ofNat N).toNat = N := by rw [UInt8.toNat_ofNat', Nat.mod_eq_of_lt (by omega)]
    simp [valL, rdN_one, e]
  · simp only at h1 h2 h3
    subst h1
    simp at h0
    obtain ⟨_, h0⟩ := h0
    obtain rfl := noneS (x := x) (by simpa using h0)
    have e := rdN_six n.natAbs r (by omega)
    have hL := numL_length n.natAbs 6
    by_cases hn : n < 0
    · have hf : flagN (decide (n < 0)) = 1 := by simp [flagN, hn]
      have e2 : valL ⟨2, n, ⟨#[]⟩⟩ = 2 :: 1 :: numL n.natAbs 6 := by simp [valL, hf]
      rw [e2]
      simp only [List.cons_append, rdN_one, List.drop_succ_cons, List.drop_zero]
      rw [e.1]
      simp [hL]
      omega
    · have hf : flagN (decide (n < 0)) = 0 := by simp [flagN, hn]
      have e2 : valL ⟨2, n, ⟨#[]⟩⟩ = 2 :: 0 :: numL n.natAbs 6 := by simp [valL, hf]
      rw [e2]
      simp only [List.cons_append, rdN_one, List.drop_succ_cons, List.drop_zero]
      rw [e.1]
      simp [hL]
      omega
  · simp only at h1 h2
    subst h1
    simp at h0
    obtain ⟨rfl, _⟩ := h0
    have e2 : valL ⟨3, 0, x⟩ = 3 :: textL x := by simp [valL]
    have e3 : (UInt8.ofNat x.size).toNat = x.size := by rw [UInt8.toNat_ofNat', Nat.mod_eq_of_lt (by omega)]
    have hx : x.data.toList.length = x.size := by simp
    have hsp : spT x.size l (p + 1 + 1) = (x, p + 1 + 1 + x.size) := by
      unfold spT
      rw [e2, textL_cons] at hlen d2
      rw [if_pos (by simp at hlen; omega), d2]
      simp
    rw [e2]
    simp only [List.cons_append, rdN_one, List.drop_succ_cons, List.drop_zero]
    rw [textL_cons, List.cons_append, rdN_one, e3, hsp]
    simp
    omega
theorem spVs_row : ∀ (vs : List Vc) (l : List UInt8) (p : Nat) (r : List UInt8), l.drop p = vs.flatMap valL ++ r → (∀ c ∈ vs, okB c.ty c.n c.s = true) → (spVs vs.length l p).1 = vs
  | [], _, _, _, _, _ => rfl
  | c :: vs, l, p, r, hd, h => by
    have hd' : l.drop p = valL c ++ (vs.flatMap valL ++ r) := by rw [hd, List.flatMap_cons, List.append_assoc]
    have e := spV_val l p c _ hd' (h c (by simp))
    have hd2 : l.drop (p + (valL c).length) = vs.flatMap valL ++ r := by rw [← List.drop_drop, hd', List.drop_left]
    have ih := spVs_row vs l (p + (valL c).length) r hd2 fun x hx => h x (by simp [hx])
    show (spV l p).1 :: (spVs vs.length l (spV l p).2).1 = c :: vs
    rw [e]
    simp only
    rw [ih]
theorem spVs_rowL (us : List Vc) (h : okRow us) : (spVs (min (rdN 1 (rowL us)) 9) (rowL us) 1).1 = us := by
  have h1 : rdN 1 (rowL us) = us.length := by
    rw [rowL, rdN_one, UInt8.toNat_ofNat', Nat.mod_eq_of_lt (by have := h.1; omega)]
  rw [h1, Nat.min_eq_left (by have := h.1; omega)]
  exact spVs_row us (rowL us) 1 [] (by simp [rowL]) h.2
set_option maxRecDepth 100000 in
set_option maxHeartbeats 1000000 in
/-- spec.ReadVals -/
theorem readVals_spec (b off cap : Nat) (l : List UInt8) (w : World) (hb : b < w.heap.size) (hlc : l.length ≤ cap) (hcm : cap ≤ maxLen) (hl : l.length ≤ 1048576) (hr : RowAt w (some ⟨b, off, none⟩) 1 (l.map byX)) :
    Calls Try.prog 21 #[.slice (some ⟨b, off, none⟩) l.length cap] w fun e w' => ∃ v vs q, e = .returned (.tuple #[v, .bool q]) ∧ isRow l vs q ∧ Got w' w.heap.size 104 3 v (vs.map Vc.cells) ∧ Below w.heap.size w w' := by
  have HR : Hid (RowAt w (some ⟨b, off, none⟩) 1 (l.map byX)) := hr
  have HRD : Hid (SdB (w.alloc (.cells #[.slice (some ⟨b, off, none⟩) l.length cap, .int .i64 0] 91)) w.heap.size l 0) := ⟨b, off, cap, Own.new _ _ _, hb, hlc, hcm, HR.out.on (by repeat (first | with_reducible exact Below.refl _ _ | with_reducible assumption | with_reducible refine ch_alloc ?_ _ | with_reducible refine Below.drew ?_ | with_reducible refine below_draws _ ?_ | (with_reducible refine Below.setCell ?_ ?_ _; rotate_left; focus (first | with_reducible exact Nat.le_refl _ | (simp; done) | (simp; omega) | (simp at *; omega))) | with_reducible refine ch_trans ?_ (by with_reducible assumption)))⟩
  clear hr
  have HRV : Hid (Calls Try.prog 55 #[.pointer (some ⟨w.heap.size, 0, none⟩)] (w.alloc (.cells #[.slice (some ⟨b, off, none⟩) l.length cap, .int .i64 0] 91)) fun e w' => ∃ v, e = .returned v ∧ Got w' (w.alloc (.cells #[.slice (some ⟨b, off, none⟩) l.length cap, .int .i64 0] 91)).heap.size 104 3 v ((spVs (min (rdN 1 l) 9) l 1).1.map Vc.cells) ∧ Turns (· = w.heap.size) (w.alloc (.cells #[.slice (some ⟨b, off, none⟩) l.length cap, .int .i64 0] 91)) w') := l06Vals_any _ l _ HRD.out hl
  have HU : Hid (∀ us, okRow us → rowL us = l → (spVs (min (rdN 1 l) 9) l 1).1 = us) := fun us h1 h2 => by
    subst h2
    exact spVs_rowL us h1
  generalize (spVs (min (rdN 1 l) 9) l 1).1 = vs at HRV HU
  go_enter Try.func21, Try.ntmps21
  go_wp2_with fail
  refine HRV.out.mono ?_
  rintro e w1 ⟨v, rfl, hg, ht⟩
  rw [show (w.alloc (.cells #[.slice (some ⟨b, off, none⟩) l.length cap, .int .i64 0] 91)).heap.size = w.heap.size + 1 from by simp] at hg
  obtain ⟨a1, n1, c1, rfl, hg⟩ := hg.lit2
  have HG : Hid (Got w1 w.heap.size 104 3 (.slice a1 n1 c1) (vs.map Vc.cells)) := hg.mono (by omega)
  have hb1 : Below w.heap.size w w1 := (ch_alloc (Below.refl _ _) _).trans (ht.toBelow (fun c h => by have h : c = w.heap.size := h; omega) (by simp))
  clear hg ht HRV HRD
  obtain ⟨qr, Lr, hqr⟩ : ∃ (q : Bool) (L : List UInt8), (q = true ∧ okRow vs ∧ L = rowL vs) ∨ (q = false ∧ ¬ okRow vs ∧ L = []) := by
    by_cases h : okRow vs
    · exact ⟨true, _, Or.inl ⟨rfl, h, rfl⟩⟩
    · exact ⟨false, _, Or.inr ⟨rfl, h, rfl⟩⟩
  have HRB : Hid (∀ u : World, ValsV u (.slice a1 n1 c1) vs → Calls Try.prog 38 #[.slice a1 n1 c1] u fun e w' => ∃ v', e = .returned (.tuple #[v', .bool qr]) ∧ Below u.heap.size u w' ∧ Got w' u.heap.size 5 1 v' (Lr.map byX)) := fun u hu => rowBytes_spec _ vs u hu qr Lr hqr
  go_wp2_with fail
  refine (HRB.out _ HG.out.vals).mono ?_
  rintro e w2 ⟨v2, rfl, b2, hg2⟩
  rcases hqr with ⟨rfl, hok, rfl⟩ | ⟨rfl, hok, rfl⟩
  · obtain ⟨bb, bo, bc, rfl, hr2⟩ := hg2.someV (by simp [rowL])
    have HG2 : Hid (Got w2 w.heap.size 104 3 (.slice a1 n1 c1) (vs.map Vc.cells)) := HG.out.on b2
    have hcv := fun k : Nat => conv_back (w2.drewN k) bb bo bc (rowL vs) (hr2.on (below_draws _ (Below.refl _ _)))
    have hr3 : RowAt w2 (some ⟨b, off, none⟩) 1 (l.map byX) := HR.out.on (by repeat (first | with_reducible exact Below.refl _ _ | with_reducible assumption | with_reducible refine ch_alloc ?_ _ | with_reducible refine Below.drew ?_ | with_reducible refine below_draws _ ?_ | (with_reducible refine Below.setCell ?_ ?_ _; rotate_left; focus (first | with_reducible exact Nat.le_refl _ | (simp; done) | (simp; omega) | (simp at *; omega))) | with_reducible refine ch_trans ?_ (by with_reducible assumption)))
    have hcv2 := fun k : Nat => conv_back (w2.drewN k) b off cap l (hr3.on (below_draws _ (Below.refl _ _)))
    have hcv3 := conv_back w2 bb bo bc (rowL vs) hr2
    have hcv4 := conv_back w2 b off cap l hr3
    have HOK : Hid (okRow vs) := hok
    have HB2 : Hid (Below w.heap.size w w2) := by show Below _ _ _; exact (by repeat (first | with_reducible exact Below.refl _ _ | with_reducible assumption | with_reducible refine ch_alloc ?_ _ | with_reducible refine Below.drew ?_ | with_reducible refine below_draws _ ?_ | (with_reducible refine Below.setCell ?_ ?_ _; rotate_left; focus (first | with_reducible exact Nat.le_refl _ | (simp; done) | (simp; omega) | (simp at *; omega))) | with_reducible refine ch_trans ?_ (by with_reducible assumption)))
    clear hg2 hr2 HRB b2 hok hb1 hr3
    by_cases heq : rowL vs = l
    · have HI : Hid (isRow l vs true) := Or.inl ⟨rfl, HOK.out, heq⟩
      have hq : (rowL vs == l) = true := by simp [heq]
      clear heq
      go_wp2
      go_ret2
      exact ⟨_, vs, true, rfl, HI.out, HG2.out, HB2.out⟩
    · have HI : Hid (isRow l [] false) := Or.inr ⟨rfl, fun us h1 h2 => by
        have e := HU.out us h1 h2
        subst e
        exact heq h2, rfl⟩
      have hq : (rowL vs == l) = false := by simp [heq]
      clear heq
      go_wp2
      go_ret2
      exact ⟨_, [], false, rfl, HI.out, Got.nil _ _ _ _, HB2.out⟩
  · have HI : Hid (isRow l [] false) := Or.inr ⟨rfl, fun us h1 h2 => by
      have e := HU.out us h1 h2
      subst e
      exact hok h1, rfl⟩
    have HB2 : Hid (Below w.heap.size w w2) := by show Below _ _ _; exact (by repeat (first | with_reducible exact Below.refl _ _ | with_reducible assumption | with_reducible refine ch_alloc ?_ _ | with_reducible refine Below.drew ?_ | with_reducible refine below_draws _ ?_ | (with_reducible refine Below.setCell ?_ ?_ _; rotate_left; focus (first | with_reducible exact Nat.le_refl _ | (simp; done) | (simp; omega) | (simp at *; omega))) | with_reducible refine ch_trans ?_ (by with_reducible assumption)))
    obtain ⟨a2, n2, c2, rfl, _⟩ := hg2.lit2
    clear hg2 HRB b2 hok
    go_wp2
    go_ret2
    exact ⟨_, [], false, rfl, HI.out, Got.nil _ _ _ _, HB2.out⟩
end Go.Proofs.Ytihilcffmdjhhao
