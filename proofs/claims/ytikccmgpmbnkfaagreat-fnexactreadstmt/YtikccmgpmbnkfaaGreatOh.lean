/- The given reader of bytes: values, ReadVals. The given reader of bytes: right rows; the given ReadVals. Statements read from bytes as the given reader does, plainly. A drawn region walked in one order whose last operation is a store: by any relation of worlds. -/
import Derived.Test.YtikccmgpmbnkfaaGreatRs3
import Derived.Test.YtikccmgpmbnkfaaGreatRvb
import Derived.Test.YtikccmgpmbnkfaaGreatWy
import Derived.Test.YtikccmgpmbnkfaaGreatWq
namespace Go.Proofs.YtikccmgpmbnkfaaGreat
open Go.ChangeShapes Go.WideShapes Go.ChangeAt Go.RowKit

theorem spV_le (l : List UInt8) (p : Nat) : (spV l p).2 ≤ p + 300 ∨ (spV l p).2 ≤ l.length + 1 := by
  unfold spV
  split
  · exact Or.inl (by simp)
  split
  · exact Or.inl (by simp)
  split
  · simp only [spT]
    split
    · exact Or.inl (by have := rdN_byte (l.drop (p + 1)); simp only; omega)
    · exact Or.inr (by simp)
  · exact Or.inl (by simp)
theorem SdB.low {w w' : World} {R B p : Nat} {l : List UInt8} (h : SdB w R l p) (hR : R < B) (k : Below B w w') : SdB w' R l p := by
  obtain ⟨b, off, cap, ho, hb, h3, h4, hr⟩ := h
  refine ⟨b, off, cap, (k.block R hR).trans ho, hb, h3, h4, hr.1, ?_⟩
  rcases hr.2 with h0 | ⟨b', off', e, h1⟩
  · exact Or.inl h0
  · cases e
    exact Or.inr ⟨b, off, rfl, fun i hi j hj => (k.cell (p := ⟨b, off + i * 1 + j, none⟩) (Nat.lt_trans hb hR)).trans (h1 i hi j hj)⟩
set_option maxRecDepth 100000 in
set_option maxHeartbeats 1000000 in
/-- spec.l06Vals -/
theorem l06Vals_any (R : Nat) (l : List UInt8) (w : World) (h : SdB w R l 0) (hl : l.length ≤ 1048576) :
    Calls Tryz.prog 41 #[.pointer (some ⟨R, 0, none⟩)] w fun e w' => ∃ v, e = .returned v ∧ Got w' w.heap.size 128 3 v ((spVs (min (rdN 1 l) 9) l 1).1.map Vc.cells) ∧ Turns (· = R) w w' := by
  have HN : Hid (∀ u : World, SdB u R l 0 → Calls Tryz.prog 39 #[.pointer (some ⟨R, 0, none⟩), .int .i64 1] u fun e w' => e = .returned (.int .i64 (rdN 1 l : Int)) ∧ SdB w' R l 1 ∧ Turns (· = R) u w') := fun u hu => l06Take_any R 1 0 l u hu (by omega) (by omega) (by omega)
  have HR : Hid (SdB w R l 0) := h
  have hRw : R < w.heap.size := by obtain ⟨_, _, _, ho, _⟩ := h; exact ho.lt
  have hn256 := rdN_byte l
  clear h
  generalize rdN 1 l = N at HN hn256 ⊢
  go_enter Tryz.func41, Tryz.ntmps41
  go_wp2_with fail
  refine (HN.out _ (HR.out.on (by repeat (first | with_reducible exact Below.refl _ _ | with_reducible assumption | with_reducible refine ch_alloc ?_ _ | with_reducible refine Below.drew ?_ | with_reducible refine below_draws _ ?_ | (with_reducible refine Below.setCell ?_ ?_ _; rotate_left; focus (first | with_reducible exact Nat.le_refl _ | (simp; done) | (simp; omega) | (simp at *; omega))) | with_reducible refine ch_trans ?_ (by with_reducible assumption))))).mono ?_
  rintro e w1 ⟨rfl, hd, ht⟩
  have HD : Hid (SdB w1 R l 1) := hd
  have HG : Hid (Got w1 w.heap.size 128 3 (.slice (some ⟨w.heap.size, 0, none⟩) 0 0) (([] : List Vc).map Vc.cells)) := (Got.empty w 128 3).turns ht fun c h => by have h : c = R := h; omega
  have HT : Hid (Turns (· = R) w w1) := ((Turns.refl (· = R) w).below (ch_alloc (Below.refl _ _) _)).trans ht
  clear hd ht
  go_wp2
  go_loopw [3, 5] (fun q i wr => ∃ (k : Nat) (vs : List Vc) (cur : Nat), k ≤ min N 9 ∧ i = .int .i64 (k : Int) ∧ vs.length = k ∧ cur ≤ 1048600 + 300 * k ∧ Hid (vs ++ (spVs (min N 9 - k) l cur).1 = (spVs (min N 9) l 1).1) ∧ Hid (SdB wr R l cur) ∧ Hid (Turns (· = R) w wr) ∧ Hid (Got wr w.heap.size 128 3 q (vs.map Vc.cells))) (fun _ i _ => 10 - (intOf i).toNat)
  case atStart => exact ⟨0, [], 1, Nat.zero_le _, rfl, rfl, by omega, rfl, HD, HT, HG⟩
  case round =>
    clear HD HT HG
    obtain ⟨k, vs, cur, hk, rfl, hvk, hcur, HE, HD, HT, HG⟩ := hrel
    obtain ⟨a1, n1, c1, rfl, hg⟩ := HG.out.lit2
    have HG1 : Hid (Got wr w.heap.size 128 3 (.slice a1 n1 c1) (vs.map Vc.cells)) := hg
    have hk9 : k ≤ 9 := by omega
    clear hg HG
    by_cases hlt : k < min N 9
    · have hlti : (k : Int) < N := by omega
      have hlt8 : (k : Int) ≤ 8 := by omega
      have HVA : Hid (Calls Tryz.prog 78 #[.pointer (some ⟨R, 0, none⟩)] wr fun e w' => e = .returned (.agg (spV l cur).1.cells) ∧ SdB w' R l (spV l cur).2 ∧ Turns (· = R) wr w') := l06Val_any R cur l wr HD.out (by omega) hl
      have HE' : Hid ((vs ++ [(spV l cur).1]) ++ (spVs (min N 9 - (k + 1)) l (spV l cur).2).1 = (spVs (min N 9) l 1).1) := by
        show _ = _
        rw [← HE.out, show min N 9 - k = (min N 9 - (k + 1)) + 1 by omega, List.append_assoc]; rfl
      have hnx : (spV l cur).2 ≤ 1048600 + 300 * (k + 1) := by have := spV_le l cur; omega
      generalize (spV l cur).2 = nxt at HVA HE' hnx
      generalize (spV l cur).1 = c at HVA HE'
      obtain ⟨ty, n, x⟩ := c
      go_wp2_with fail
      refine HVA.out.mono ?_
      rintro e w2 ⟨rfl, hd, ht⟩
      have HD2 : Hid (SdB w2 R l nxt) := hd
      have HT2 : Hid (Turns (· = R) w w2) := HT.out.trans ht
      have HG2 : Hid (Got w2 w.heap.size 128 3 (.slice a1 n1 c1) (vs.map Vc.cells)) := HG1.out.turns ht fun c h => by have h : c = R := h; omega
      have hs2 : w.heap.size ≤ w2.heap.size := HT2.out.size
      clear hd ht
      go_wp2_with (at_builtin; refine app_one rfl (.tmp 18) (.tmp 21) rfl Tryz.underlying40 infoVal rfl (by decide) (by decide) w.heap.size _ (vs.map Vc.cells) rfl (HG2.out.on (ch_alloc (Below.refl _ _) _)) w2.heap.size 1 #[.int .i64 ty, .int .i64 n, .string x] rfl (Loc.new _ _ _) rfl (val_one ⟨ty, n, x⟩) (by simp; omega) (by simp; omega) ?_; intro v3 w3 hg3 hb3)
      have HG3 : Hid (Got w3 w.heap.size 128 3 v3 ((vs ++ [(⟨ty, n, x⟩ : Vc)]).map Vc.cells)) := by
        show Got _ _ _ _ _ _
        rw [List.map_append]; exact hg3
      have hb23 : Below w.heap.size w2 w3 := (Below.alloc (Below.refl _ _) hs2 _).trans hb3
      have HD3 : Hid (SdB w3 R l nxt) := HD2.out.low hRw hb23
      have HT3 : Hid (Turns (· = R) w w3) := HT2.out.low hb23
      clear hg3 hb3 hb23
      go_round
      case rel => exact ⟨k + 1, vs ++ [⟨ty, n, x⟩], nxt, by omega, by go_num, by simp; omega, hnx, HE', HD3, HT3, HG3⟩
      case measure => simp [intOf]; omega
    · by_cases hN : k < N
      · have hlti : (k : Int) < N := by omega
        have hlt8 : ¬ (k : Int) ≤ 8 := by omega
        have HF : Hid (vs = (spVs (min N 9) l 1).1) := by
          have := HE.out
          rw [show min N 9 - k = 0 by omega, spVs] at this
          show vs = _
          simpa using this
        go_wp2
        go_ret
        exact ⟨_, rfl, by rw [← HF.out]; exact HG1.out, HT.out⟩
      · have hlti : ¬ (k : Int) < N := by omega
        have HF : Hid (vs = (spVs (min N 9) l 1).1) := by
          have := HE.out
          rw [show min N 9 - k = 0 by omega, spVs] at this
          show vs = _
          simpa using this
        go_wp2
        go_ret
        exact ⟨_, rfl, by rw [← HF.out]; exact HG1.out, HT.out⟩
end Go.Proofs.YtikccmgpmbnkfaaGreat

namespace Go.Proofs.YtikccmgpmbnkfaaGreat
open Go.ChangeShapes Go.WideShapes Go.ChangeAt Go.RowKit

theorem textL_cons (x : ByteArray) : textL x = UInt8.ofNat x.size :: x.data.toList := rfl
theorem spV_val (l : List UInt8) (p : Nat) (c : Vc) (r : List UInt8) (hd : l.drop p = valL c ++ r) (h : okB c.ty c.n c.s = true) : spV l p = (c, p + (valL c).length) := by
  have d1 : l.drop (p + 1) = (valL c ++ r).drop 1 := by rw [← hd, List.drop_drop]
  have d2 : l.drop (p + 1 + 1) = (valL c ++ r).drop 2 := by rw [← hd, List.drop_drop]
  have hlen : l.length - p = (valL c).length + r.length := by
    have := congrArg List.length hd
    simpa using this
  have hpos : 1 ≤ (valL c).length := by simp [valL]
  unfold spV
  rw [hd, d1, d2]
  obtain ⟨ty, n, x⟩ := c
  simp only at h
  have h0 := h
  unfold okB at h0
  rcases okB_ty (c := ⟨ty, n, x⟩) h with h1 | ⟨h1, h2, h3⟩ | ⟨h1, h2, h3⟩ | ⟨h1, h2⟩
  · simp only at h1
    subst h1
    simp at h0
    obtain ⟨rfl, h0⟩ := h0
    obtain rfl := noneS (x := x) (by simpa using h0)
    simp [valL, rdN_one]
  · simp only at h1 h2 h3
    subst h1
    simp at h0
    obtain ⟨_, h0⟩ := h0
    obtain rfl := noneS (x := x) (by simpa using h0)
    obtain ⟨N, rfl⟩ : ∃ N : Nat, n = (N : Int) := ⟨n.toNat, by omega⟩
    have e : (UInt8.ofNat N).toNat = N := by rw [UInt8.toNat_ofNat', Nat.mod_eq_of_lt (by omega)]
    simp [valL, rdN_one, e]
  · simp only at h1 h2 h3
    subst h1
    simp at h0
    obtain ⟨_, h0⟩ := h0
    obtain rfl := noneS (x := x) (by simpa using h0)
    have e := rdN_six n.natAbs r (by omega)
    have hL := numL_length n.natAbs 6
    by_cases hn : n < 0
    · have hf : flagN (decide (n < 0)) = 1 := by simp [flagN, hn]
      have e2 : valL ⟨2, n, ⟨#[]⟩⟩ = 2 :: 1 :: numL n.natAbs 6 := by simp [valL, hf]
      rw [e2]
      simp only [List.cons_append, rdN_one, List.drop_succ_cons, List.drop_zero]
      rw [e.1]
      simp [hL]
      omega
    · have hf : flagN (decide (n < 0)) = 0 := by simp [flagN, hn]
      have e2 : valL ⟨2, n, ⟨#[]⟩⟩ = 2 :: 0 :: numL n.natAbs 6 := by simp [valL, hf]
      rw [e2]
      simp only [List.cons_append, rdN_one, List.drop_succ_cons, List.drop_zero]
      rw [e.1]
      simp [hL]
      omega
  · simp only at h1 h2
    subst h1
    simp at h0
    obtain ⟨rfl, _⟩ := h0
    have e2 : valL ⟨3, 0, x⟩ = 3 :: textL x := by simp [valL]
    have e3 : (UInt8.ofNat x.size).toNat = x.size := by rw [UInt8.toNat_ofNat', Nat.mod_eq_of_lt (by omega)]
    have hx : x.data.toList.length = x.size := by simp
    have hsp : spT x.size l (p + 1 + 1) = (x, p + 1 + 1 + x.size) := by
      unfold spT
      rw [e2, textL_cons] at hlen d2
      rw [if_pos (by simp at hlen; omega), d2]
      simp
    rw [e2]
    simp only [List.cons_append, rdN_one, List.drop_succ_cons, List.drop_zero]
    rw [textL_cons, List.cons_append, rdN_one, e3, hsp]
    simp
    omega
theorem spVs_row : ∀ (vs : List Vc) (l : List UInt8) (p : Nat) (r : List UInt8), l.drop p = vs.flatMap valL ++ r → (∀ c ∈ vs, okB c.ty c.n c.s = true) → (spVs vs.length l p).1 = vs
  | [], _, _, _, _, _ => rfl
  | c :: vs, l, p, r, hd, h => by
    have hd' : l.drop p = valL c ++ (vs.flatMap valL ++ r) := by rw [hd, List.flatMap_cons, List.append_assoc]
    have e := spV_val l p c _ hd' (h c (by simp))
    have hd2 : l.drop (p + (valL c).length) = vs.flatMap valL ++ r := by rw [← List.drop_drop, hd', List.drop_left]
    have ih := spVs_row vs l (p + (valL c).length) r hd2 fun x hx => h x (by simp [hx])
    show (spV l p).1 :: (spVs vs.length l (spV l p).2).1 = c :: vs
    rw [e]
    simp only
    rw [ih]
theorem spVs_rowL (us : List Vc) (h : okRow us) : (spVs (min (rdN 1 (rowL us)) 9) (rowL us) 1).1 = us := by
  have h1 : rdN 1 (rowL us) = us.length := by
    rw [rowL, rdN_one, UInt8.toNat_ofNat', Nat.mod_eq_of_lt (by have := h.1; omega)]
  rw [h1, Nat.min_eq_left (by have := h.1; omega)]
  exact spVs_row us (rowL us) 1 [] (by simp [rowL]) h.2
end Go.Proofs.YtikccmgpmbnkfaaGreat

namespace Go.Proofs.YtikccmgpmbnkfaaGreat
open Go.ChangeShapes Go.WideShapes Go.ChangeAt Go.RowKit

/-- A text with its length from a place on, and the place behind it. -/
def spX (l : List UInt8) (p : Nat) : ByteArray × Nat := spT (rdN 1 (l.drop p)) l (p + 1)
/-- Values, counted, from a place on. -/
def spR (l : List UInt8) (p : Nat) : List Vc × Nat := spVs (min (rdN 1 (l.drop p)) 9) l (p + 1)
/-- A column from a place on. -/
def spC (l : List UInt8) (p : Nat) : Cl × Nat :=
  (⟨(spX l p).1, (rdN 1 (l.drop (spX l p).2) : Int), decide (rdN 1 (l.drop ((spX l p).2 + 1)) = 1), decide (rdN 1 (l.drop ((spX l p).2 + 1 + 1)) = 1), (spV l ((spX l p).2 + 1 + 1 + 1)).1.ty, (spV l ((spX l p).2 + 1 + 1 + 1)).1.n, (spV l ((spX l p).2 + 1 + 1 + 1)).1.s⟩, (spV l ((spX l p).2 + 1 + 1 + 1)).2)
def spCs : Nat → List UInt8 → Nat → List Cl × Nat
  | 0, _, p => ([], p)
  | n + 1, l, p => ((spC l p).1 :: (spCs n l (spC l p).2).1, (spCs n l (spC l p).2).2)
def spKs : Nat → List UInt8 → Nat → List ByteArray × Nat
  | 0, _, p => ([], p)
  | n + 1, l, p => ((spX l p).1 :: (spKs n l (spX l p).2).1, (spKs n l (spX l p).2).2)
theorem drop_next {l a r : List UInt8} {p : Nat} (h : l.drop p = a ++ r) : l.drop (p + a.length) = r := by rw [← List.drop_drop, h, List.drop_left]
theorem drop_len {l a : List UInt8} {p : Nat} (h : l.drop p = a) (h1 : 1 ≤ a.length) : l.length = p + a.length := by
  have := congrArg List.length h
  rw [List.length_drop] at this
  omega
theorem spX_text (l : List UInt8) (p : Nat) (x : ByteArray) (r : List UInt8) (hd : l.drop p = textL x ++ r) (h : x.size ≤ 30) : spX l p = (x, p + (textL x).length) := by
  have hn : rdN 1 (l.drop p) = x.size := by rw [hd, textL, List.cons_append, rdN_one, UInt8.toNat_ofNat', Nat.mod_eq_of_lt (by omega)]
  have hlen := drop_len hd (by simp [textL])
  rw [List.length_append, textL_length] at hlen
  have d1 : l.drop (p + 1) = x.data.toList ++ r := by
    have := drop_next (a := [UInt8.ofNat x.size]) (r := x.data.toList ++ r) (by rw [hd]; simp [textL])
    simpa using this
  unfold spX
  rw [hn]
  unfold spT
  rw [if_pos (by omega), d1, textL_length]
  have hx : x.data.toList.length = x.size := by simp
  refine Prod.ext ?_ (by simp only; omega)
  simp only
  rw [List.take_append_of_le_length (by omega), List.take_of_length_le (by omega)]
theorem rdN_at (l : List UInt8) (p : Nat) (c : UInt8) (r : List UInt8) (hd : l.drop p = c :: r) : rdN 1 (l.drop p) = c.toNat ∧ l.drop (p + 1) = r := by
  refine ⟨by rw [hd, rdN_one], ?_⟩
  have := drop_next (a := [c]) (r := r) (by rw [hd]; rfl)
  simpa using this
theorem spC_col (l : List UInt8) (p : Nat) (c : Cl) (r : List UInt8) (hd : l.drop p = colL c ++ r) (h : c.tame) : spC l p = (c, p + (colL c).length) := by
  obtain ⟨⟨h1, h2, h3⟩, h4⟩ := h
  obtain ⟨nm, ty, nt, has, dt, dn, ds⟩ := c
  simp only at h1 h2 h3 h4
  obtain ⟨N, rfl⟩ : ∃ N : Nat, ty = (N : Int) := ⟨ty.toNat, by omega⟩
  have e0 : colL ⟨nm, (N : Int), nt, has, dt, dn, ds⟩ ++ r = textL nm ++ (UInt8.ofNat N :: flagN nt :: flagN has :: (valL ⟨dt, dn, ds⟩ ++ r)) := by simp [colL]
  rw [e0] at hd
  have e1 := spX_text l p nm _ hd h1
  have f1 := drop_next hd
  obtain ⟨g1, f2⟩ := rdN_at _ _ _ _ f1
  obtain ⟨g2, f3⟩ := rdN_at _ _ _ _ f2
  obtain ⟨g3, f4⟩ := rdN_at _ _ _ _ f3
  have e4 := spV_val l _ ⟨dt, dn, ds⟩ r f4 h3
  have e2 : (UInt8.ofNat N).toNat = N := by rw [UInt8.toNat_ofNat', Nat.mod_eq_of_lt (by omega)]
  have e3 : ∀ b : Bool, decide ((flagN b).toNat = 1) = b := fun b => by cases b <;> rfl
  unfold spC
  rw [e1]
  simp only [g1, g2, g3, e2, e3, e4]
  refine Prod.ext rfl ?_
  simp [colL]
  omega
theorem spCs_flat : ∀ (cs : List Cl) (l : List UInt8) (p : Nat) (r : List UInt8), l.drop p = cs.flatMap colL ++ r → (∀ c ∈ cs, c.tame) → spCs cs.length l p = (cs, p + (cs.flatMap colL).length)
  | [], _, _, _, _, _ => rfl
  | c :: cs, l, p, r, hd, h => by
    have hd' : l.drop p = colL c ++ (cs.flatMap colL ++ r) := by rw [hd, List.flatMap_cons, List.append_assoc]
    have e := spC_col l p c _ hd' (h c (by simp))
    have ih := spCs_flat cs l (p + (colL c).length) r (drop_next hd') fun x hx => h x (by simp [hx])
    show ((spC l p).1 :: (spCs cs.length l (spC l p).2).1, (spCs cs.length l (spC l p).2).2) = _
    rw [e]
    simp only
    rw [ih]
    simp [Nat.add_assoc]
theorem spKs_flat : ∀ (ks : List ByteArray) (l : List UInt8) (p : Nat) (r : List UInt8), l.drop p = ks.flatMap textL ++ r → (∀ s ∈ ks, s.size ≤ 30) → spKs ks.length l p = (ks, p + (ks.flatMap textL).length)
  | [], _, _, _, _, _ => rfl
  | s :: ks, l, p, r, hd, h => by
    have hd' : l.drop p = textL s ++ (ks.flatMap textL ++ r) := by rw [hd, List.flatMap_cons, List.append_assoc]
    have e := spX_text l p s _ hd' (h s (by simp))
    have ih := spKs_flat ks l (p + (textL s).length) r (drop_next hd') fun x hx => h x (by simp [hx])
    show ((spX l p).1 :: (spKs ks.length l (spX l p).2).1, (spKs ks.length l (spX l p).2).2) = _
    rw [e]
    simp only
    rw [ih]
    simp [Nat.add_assoc]
theorem spVs_flat : ∀ (vs : List Vc) (l : List UInt8) (p : Nat) (r : List UInt8), l.drop p = vs.flatMap valL ++ r → (∀ c ∈ vs, okB c.ty c.n c.s = true) → spVs vs.length l p = (vs, p + (vs.flatMap valL).length)
  | [], _, _, _, _, _ => rfl
  | c :: vs, l, p, r, hd, h => by
    have hd' : l.drop p = valL c ++ (vs.flatMap valL ++ r) := by rw [hd, List.flatMap_cons, List.append_assoc]
    have e := spV_val l p c _ hd' (h c (by simp))
    have ih := spVs_flat vs l (p + (valL c).length) r (drop_next hd') fun x hx => h x (by simp [hx])
    show ((spV l p).1 :: (spVs vs.length l (spV l p).2).1, (spVs vs.length l (spV l p).2).2) = _
    rw [e]
    simp only
    rw [ih]
    simp [Nat.add_assoc]
theorem spR_row (l : List UInt8) (p : Nat) (vs : List Vc) (r : List UInt8) (hd : l.drop p = rowL vs ++ r) (h : okRow vs) : spR l p = (vs, p + (rowL vs).length) := by
  obtain ⟨g1, f1⟩ := rdN_at l p (UInt8.ofNat vs.length) (vs.flatMap valL ++ r) (by rw [hd]; rfl)
  have hl := h.1
  unfold spR
  rw [g1, UInt8.toNat_ofNat', Nat.mod_eq_of_lt (by omega), Nat.min_eq_left (by omega), spVs_flat vs l (p + 1) r f1 h.2]
  simp [rowL]
  omega
/-- Texts, counted, from a place on. -/
def spW (l : List UInt8) (p : Nat) : List ByteArray × Nat := spKs (min (rdN 1 (l.drop p)) 9) l (p + 1)
/-- Columns, counted, from a place on. -/
def spK (l : List UInt8) (p : Nat) : List Cl × Nat := spCs (min (rdN 1 (l.drop p)) 9) l (p + 1)
/-- A change of a table from a place on. -/
def spD (tb : ByteArray) (l : List UInt8) (p : Nat) : Dc × Nat :=
  (⟨(rdN 1 (l.drop p) : Int), tb, (spK l (p + 1)).1, (spW l (spK l (p + 1)).2).1, (spX l (spW l (spK l (p + 1)).2).2).1, (spX l (spX l (spW l (spK l (p + 1)).2).2).2).1⟩, (spX l (spX l (spW l (spK l (p + 1)).2).2).2).2)
theorem spD_ddl (l : List UInt8) (p : Nat) (d : Dc) (r : List UInt8) (hd : l.drop p = ddlL d ++ r) (h : d.tame) : (spD d.table l p).1 = d := by
  obtain ⟨⟨h0, h1, h2, h3, h4, h5, h6⟩, h7, h8⟩ := h
  obtain ⟨kd, tb, cs, ks, nm, to⟩ := d
  simp only at *
  obtain ⟨N, rfl⟩ : ∃ N : Nat, kd = (N : Int) := ⟨kd.toNat, by omega⟩
  have e0 : ddlL ⟨(N : Int), tb, cs, ks, nm, to⟩ ++ r = UInt8.ofNat N :: UInt8.ofNat cs.length :: (cs.flatMap colL ++ (UInt8.ofNat ks.length :: (ks.flatMap textL ++ (textL nm ++ (textL to ++ r))))) := by simp [ddlL]
  rw [e0] at hd
  have e2 : (UInt8.ofNat N).toNat = N := by rw [UInt8.toNat_ofNat', Nat.mod_eq_of_lt (by omega)]
  obtain ⟨g1, f1⟩ := rdN_at _ _ _ _ hd
  obtain ⟨g2, f2⟩ := rdN_at _ _ _ _ f1
  have e3 : spK l (p + 1) = (cs, p + 1 + 1 + (cs.flatMap colL).length) := by
    unfold spK
    rw [g2, UInt8.toNat_ofNat', Nat.mod_eq_of_lt (by omega), Nat.min_eq_left (by omega)]
    exact spCs_flat cs l (p + 1 + 1) _ f2 fun c hc => ⟨h2 c hc, h8 c hc⟩
  have f3 := drop_next f2
  obtain ⟨g4, f4⟩ := rdN_at _ _ _ _ f3
  have e4 : spW l (p + 1 + 1 + (cs.flatMap colL).length) = (ks, p + 1 + 1 + (cs.flatMap colL).length + 1 + (ks.flatMap textL).length) := by
    unfold spW
    rw [g4, UInt8.toNat_ofNat', Nat.mod_eq_of_lt (by omega), Nat.min_eq_left (by omega)]
    exact spKs_flat ks l _ _ f4 h4
  have f5 := drop_next f4
  have e5 := spX_text l _ nm _ f5 h5
  have f6 := drop_next f5
  have e6 := spX_text l _ to _ f6 h6
  unfold spD
  rw [e3]
  simp only
  rw [e4]
  simp only
  rw [e5]
  simp only
  rw [e6, g1, e2]
/-- A statement as the given reader takes it. -/
def spS (l : List UInt8) : Sc :=
  ⟨(rdN 1 (l.drop 1) : Int), (spX l 2).1, (spR l (spX l 2).2).1, (spR l (spR l (spX l 2).2).2).1, if rdN 1 (l.drop 1) = 5 then (spD (spX l 2).1 l (spR l (spR l (spX l 2).2).2).2).1 else Dc.zero⟩
theorem spS_stmt (s : Sc) (h : s.right) : spS (stmtL s) = s := by
  obtain ⟨h1, h2, h3, h4, h5, _⟩ := Sc.right_small h
  have hT := Sc.right_tame h
  have hZ := Sc.right_zero h
  obtain ⟨kd, tb, key, row, dd⟩ := s
  simp only at *
  obtain ⟨N, rfl⟩ : ∃ N : Nat, kd = (N : Int) := ⟨kd.toNat, by omega⟩
  obtain ⟨Z, hZd⟩ : ∃ Z, Z = (if (N : Int) = 5 then ddlL dd else []) := ⟨_, rfl⟩
  have e0 : stmtL ⟨(N : Int), tb, key, row, dd⟩ = 83 :: UInt8.ofNat N :: (textL tb ++ (rowL key ++ (rowL row ++ Z))) := by rw [hZd]; simp [stmtL]
  have e2 : (UInt8.ofNat N).toNat = N := by rw [UInt8.toNat_ofNat', Nat.mod_eq_of_lt (by omega)]
  generalize stmtL ⟨(N : Int), tb, key, row, dd⟩ = l at e0 ⊢
  have f0 : l.drop 1 = UInt8.ofNat N :: (textL tb ++ (rowL key ++ (rowL row ++ Z))) := by rw [e0]; rfl
  obtain ⟨g1, f1⟩ := rdN_at _ _ _ _ f0
  have e3 := spX_text l (1 + 1) tb _ f1 (by omega)
  have f2 := drop_next f1
  have e4 := spR_row l _ key _ f2 h4
  have f3 := drop_next f2
  have e5 := spR_row l _ row _ f3 h5
  have f4 := drop_next f3
  unfold spS
  rw [show (2 : Nat) = 1 + 1 from rfl, e3]
  simp only
  rw [e4]
  simp only
  rw [e5, g1, e2]
  simp only
  by_cases h : N = 5
  · subst h
    have hz : Z = ddlL dd ++ [] := by rw [hZd]; simp
    rw [hz] at f4
    have hd := spD_ddl l _ dd [] f4 (hT rfl).1
    have ht : dd.table = tb := (hT rfl).2
    subst ht
    rw [if_pos rfl, hd]
  · rw [if_neg h, ← hZ (by omega)]
theorem spX_size (l : List UInt8) (p : Nat) : (spX l p).1.size ≤ 255 := by
  have h := rdN_byte (l.drop p)
  unfold spX spT
  split
  · show ((l.drop (p + 1)).take (rdN 1 (l.drop p))).toArray.size ≤ 255
    simp; omega
  · exact Nat.zero_le _
theorem spV_fit (l : List UInt8) (p : Nat) : (spV l p).1.s.size ≤ 255 := by
  unfold spV
  split
  · exact Nat.zero_le _
  · split
    · exact Nat.zero_le _
    · split
      · have h := rdN_byte (l.drop (p + 1))
        simp only
        unfold spT
        split
        · show ((l.drop (p + 1 + 1)).take (rdN 1 (l.drop (p + 1)))).toArray.size ≤ 255
          simp; omega
        · exact Nat.zero_le _
      · exact Nat.zero_le _
theorem spVs_fit : ∀ n l p, ∀ c ∈ (spVs n l p).1, c.s.size ≤ 255
  | 0, _, _, c, h => by simp [spVs] at h
  | n + 1, l, p, c, h => by
    simp [spVs] at h
    rcases h with rfl | h
    · exact spV_fit l p
    · exact spVs_fit n _ _ c h
theorem spVs_len : ∀ n l p, (spVs n l p).1.length = n
  | 0, _, _ => rfl
  | n + 1, l, p => by simp [spVs, spVs_len n]
theorem spCs_len : ∀ n l p, (spCs n l p).1.length = n
  | 0, _, _ => rfl
  | n + 1, l, p => by simp [spCs, spCs_len n]
theorem spKs_len : ∀ n l p, (spKs n l p).1.length = n
  | 0, _, _ => rfl
  | n + 1, l, p => by simp [spKs, spKs_len n]
theorem spCs_fit : ∀ n l p, ∀ c ∈ (spCs n l p).1, c.name.size ≤ 255 ∧ c.ds.size ≤ 255
  | 0, _, _, c, h => by simp [spCs] at h
  | n + 1, l, p, c, h => by
    simp [spCs] at h
    rcases h with rfl | h
    · exact ⟨spX_size l p, spV_fit l _⟩
    · exact spCs_fit n _ _ c h
theorem spKs_fit : ∀ n l p, ∀ s ∈ (spKs n l p).1, s.size ≤ 255
  | 0, _, _, s, h => by simp [spKs] at h
  | n + 1, l, p, s, h => by
    simp [spKs] at h
    rcases h with rfl | h
    · exact spX_size l p
    · exact spKs_fit n _ _ s h
theorem spR_fit (l : List UInt8) (p : Nat) : vfit (spR l p).1 ∧ (spR l p).1.length ≤ 1048576 := by
  have hm : (255 : Nat) ≤ maxLen := by unfold maxLen; omega
  unfold spR
  refine ⟨fun c hc => Nat.le_trans (spVs_fit _ _ _ c hc) hm, ?_⟩
  rw [spVs_len]; omega
theorem spD_fit (tb : ByteArray) (l : List UInt8) (p : Nat) (ht : tb.size ≤ 255) : (spD tb l p).1.fit ∧ (spD tb l p).1.few := by
  have hm : (255 : Nat) ≤ maxLen := by unfold maxLen; omega
  unfold spD
  simp only
  generalize hX : spX l (spW l (spK l (p + 1)).2).2 = X
  have hx := spX_size l (spW l (spK l (p + 1)).2).2
  rw [hX] at hx
  have hy := spX_size l X.2
  generalize hW : spW l (spK l (p + 1)).2 = W
  have hw1 : (∀ s ∈ W.1, s.size ≤ 255) ∧ W.1.length ≤ 9 := by
    rw [← hW]
    unfold spW
    exact ⟨spKs_fit _ _ _, by rw [spKs_len]; omega⟩
  generalize hK : spK l (p + 1) = K
  have hk1 : (∀ c ∈ K.1, c.name.size ≤ 255 ∧ c.ds.size ≤ 255) ∧ K.1.length ≤ 9 := by
    rw [← hK]
    unfold spK
    exact ⟨spCs_fit _ _ _, by rw [spCs_len]; omega⟩
  exact ⟨⟨Nat.le_trans ht hm, fun c hc => ⟨Nat.le_trans (hk1.1 c hc).1 hm, Nat.le_trans (hk1.1 c hc).2 hm⟩, fun s hs => Nat.le_trans (hw1.1 s hs) hm, Nat.le_trans hx hm, Nat.le_trans hy hm⟩, Nat.le_trans hk1.2 (by omega), Nat.le_trans hw1.2 (by omega)⟩
theorem spS_fit (l : List UInt8) : (spS l).fit ∧ (spS l).few := by
  have hm : (255 : Nat) ≤ maxLen := by unfold maxLen; omega
  have hz : Dc.zero.fit ∧ Dc.zero.few := ⟨⟨Nat.zero_le _, by simp, by simp, Nat.zero_le _, Nat.zero_le _⟩, by simp, by simp⟩
  have h1 := spX_size l 2
  have h2 := spR_fit l (spX l 2).2
  have h3 := spR_fit l (spR l (spX l 2).2).2
  have h4 := spD_fit (spX l 2).1 l (spR l (spR l (spX l 2).2).2).2 h1
  unfold spS
  generalize spR l (spR l (spX l 2).2).2 = A at h3 h4 ⊢
  generalize spR l (spX l 2).2 = B at h2 ⊢
  generalize spX l 2 = C at h1 h4 ⊢
  by_cases h : rdN 1 (l.drop 1) = 5
  · rw [if_pos h]
    exact ⟨⟨Nat.le_trans h1 hm, h2.1, h3.1, h4.1⟩, h2.2, h3.2, h4.2⟩
  · rw [if_neg h]
    exact ⟨⟨Nat.le_trans h1 hm, h2.1, h3.1, hz.1⟩, h2.2, h3.2, hz.2⟩
theorem spX_le (l : List UInt8) (p : Nat) : (spX l p).2 ≤ p + 300 ∨ (spX l p).2 ≤ l.length + 1 := by
  have h := rdN_byte (l.drop p)
  unfold spX spT
  split
  · exact Or.inl (by simp only; omega)
  · exact Or.inr (Nat.le_refl _)
theorem spVs_le : ∀ (n : Nat) (l : List UInt8) (p : Nat), (spVs n l p).2 ≤ max p (l.length + 1) + 300 * n
  | 0, l, p => by show p ≤ _; omega
  | n + 1, l, p => by
    have h1 := spV_le l p
    have h2 := spVs_le n l (spV l p).2
    show (spVs n l (spV l p).2).2 ≤ _
    omega
theorem spR_le (l : List UInt8) (p : Nat) : (spR l p).2 ≤ max (p + 1) (l.length + 1) + 2700 := by
  have := spVs_le (min (rdN 1 (l.drop p)) 9) l (p + 1)
  unfold spR
  omega

set_option maxRecDepth 100000 in
set_option maxHeartbeats 1000000 in
/-- spec.l06Vals, from any place -/
theorem l06Vals_at (R p : Nat) (l : List UInt8) (w : World) (h : SdB w R l p) (hl : l.length ≤ 1048576) (hp : p ≤ 2000000) :
    Calls Tryz.prog 41 #[.pointer (some ⟨R, 0, none⟩)] w fun e w' => ∃ v, e = .returned v ∧ Got w' w.heap.size 128 3 v ((spR l p).1.map Vc.cells) ∧ SdB w' R l (spR l p).2 ∧ Turns (· = R) w w' := by
  unfold spR
  have HN : Hid (∀ u : World, SdB u R l p → Calls Tryz.prog 39 #[.pointer (some ⟨R, 0, none⟩), .int .i64 1] u fun e w' => e = .returned (.int .i64 (rdN 1 (l.drop p) : Int)) ∧ SdB w' R l (p + 1) ∧ Turns (· = R) u w') := fun u hu => l06Take_any R 1 p l u hu (by omega) (by omega) (by omega)
  have HR : Hid (SdB w R l p) := h
  have hRw : R < w.heap.size := by obtain ⟨_, _, _, ho, _⟩ := h; exact ho.lt
  have hn256 := rdN_byte (l.drop p)
  clear h
  generalize rdN 1 (l.drop p) = N at HN hn256 ⊢
  go_enter Tryz.func41, Tryz.ntmps41
  go_wp2_with fail
  refine (HN.out _ (HR.out.on (by repeat (first | with_reducible exact Below.refl _ _ | with_reducible assumption | with_reducible refine ch_alloc ?_ _ | with_reducible refine Below.drew ?_ | with_reducible refine below_draws _ ?_ | (with_reducible refine Below.setCell ?_ ?_ _; rotate_left; focus (first | with_reducible exact Nat.le_refl _ | (simp; done) | (simp; omega) | (simp at *; omega))) | with_reducible refine ch_trans ?_ (by with_reducible assumption))))).mono ?_
  rintro e w1 ⟨rfl, hd, ht⟩
  have HD : Hid (SdB w1 R l (p + 1)) := hd
  have HG : Hid (Got w1 w.heap.size 128 3 (.slice (some ⟨w.heap.size, 0, none⟩) 0 0) (([] : List Vc).map Vc.cells)) := (Got.empty w 128 3).turns ht fun c h => by have h : c = R := h; omega
  have HT : Hid (Turns (· = R) w w1) := ((Turns.refl (· = R) w).below (ch_alloc (Below.refl _ _) _)).trans ht
  clear hd ht
  go_wp2
  go_loopw [3, 5] (fun q i wr => ∃ (k : Nat) (vs : List Vc) (cur : Nat), k ≤ min N 9 ∧ i = .int .i64 (k : Int) ∧ vs.length = k ∧ cur ≤ 2048600 + 300 * k ∧ Hid (vs ++ (spVs (min N 9 - k) l cur).1 = (spVs (min N 9) l (p + 1)).1 ∧ (spVs (min N 9 - k) l cur).2 = (spVs (min N 9) l (p + 1)).2) ∧ Hid (SdB wr R l cur) ∧ Hid (Turns (· = R) w wr) ∧ Hid (Got wr w.heap.size 128 3 q (vs.map Vc.cells))) (fun _ i _ => 10 - (intOf i).toNat)
  case atStart => exact ⟨0, [], p + 1, Nat.zero_le _, rfl, rfl, by omega, ⟨rfl, rfl⟩, HD, HT, HG⟩
  case round =>
    clear HD HT HG
    obtain ⟨k, vs, cur, hk, rfl, hvk, hcur, HE, HD, HT, HG⟩ := hrel
    obtain ⟨a1, n1, c1, rfl, hg⟩ := HG.out.lit2
    have HG1 : Hid (Got wr w.heap.size 128 3 (.slice a1 n1 c1) (vs.map Vc.cells)) := hg
    have hk9 : k ≤ 9 := by omega
    clear hg HG
    by_cases hlt : k < min N 9
    · have hlti : (k : Int) < N := by omega
      have hlt8 : (k : Int) ≤ 8 := by omega
      have HVA : Hid (Calls Tryz.prog 78 #[.pointer (some ⟨R, 0, none⟩)] wr fun e w' => e = .returned (.agg (spV l cur).1.cells) ∧ SdB w' R l (spV l cur).2 ∧ Turns (· = R) wr w') := l06Val_any R cur l wr HD.out (by omega) hl
      have HE' : Hid ((vs ++ [(spV l cur).1]) ++ (spVs (min N 9 - (k + 1)) l (spV l cur).2).1 = (spVs (min N 9) l (p + 1)).1 ∧ (spVs (min N 9 - (k + 1)) l (spV l cur).2).2 = (spVs (min N 9) l (p + 1)).2) := by
        refine ⟨?_, ?_⟩
        · rw [← HE.out.1, show min N 9 - k = (min N 9 - (k + 1)) + 1 by omega, List.append_assoc]; rfl
        · rw [← HE.out.2, show min N 9 - k = (min N 9 - (k + 1)) + 1 by omega]; rfl
      have hnx : (spV l cur).2 ≤ 2048600 + 300 * (k + 1) := by have := spV_le l cur; omega
      generalize (spV l cur).2 = nxt at HVA HE' hnx
      generalize (spV l cur).1 = c at HVA HE'
      obtain ⟨ty, n, x⟩ := c
      go_wp2_with fail
      refine HVA.out.mono ?_
      rintro e w2 ⟨rfl, hd, ht⟩
      have HD2 : Hid (SdB w2 R l nxt) := hd
      have HT2 : Hid (Turns (· = R) w w2) := HT.out.trans ht
      have HG2 : Hid (Got w2 w.heap.size 128 3 (.slice a1 n1 c1) (vs.map Vc.cells)) := HG1.out.turns ht fun c h => by have h : c = R := h; omega
      have hs2 : w.heap.size ≤ w2.heap.size := HT2.out.size
      clear hd ht
      go_wp2_with (at_builtin; refine app_one rfl (.tmp 18) (.tmp 21) rfl Tryz.underlying40 infoVal rfl (by decide) (by decide) w.heap.size _ (vs.map Vc.cells) rfl (HG2.out.on (ch_alloc (Below.refl _ _) _)) w2.heap.size 1 #[.int .i64 ty, .int .i64 n, .string x] rfl (Loc.new _ _ _) rfl (val_one ⟨ty, n, x⟩) (by simp; omega) (by simp; omega) ?_; intro v3 w3 hg3 hb3)
      have HG3 : Hid (Got w3 w.heap.size 128 3 v3 ((vs ++ [(⟨ty, n, x⟩ : Vc)]).map Vc.cells)) := by
        show Got _ _ _ _ _ _
        rw [List.map_append]; exact hg3
      have hb23 : Below w.heap.size w2 w3 := (Below.alloc (Below.refl _ _) hs2 _).trans hb3
      have HD3 : Hid (SdB w3 R l nxt) := HD2.out.low hRw hb23
      have HT3 : Hid (Turns (· = R) w w3) := HT2.out.low hb23
      clear hg3 hb3 hb23
      go_round
      case rel => exact ⟨k + 1, vs ++ [⟨ty, n, x⟩], nxt, by omega, by go_num, by simp; omega, hnx, HE', HD3, HT3, HG3⟩
      case measure => simp [intOf]; omega
    · by_cases hN : k < N
      · have hlti : (k : Int) < N := by omega
        have hlt8 : ¬ (k : Int) ≤ 8 := by omega
        have HF : Hid (vs = (spVs (min N 9) l (p + 1)).1 ∧ cur = (spVs (min N 9) l (p + 1)).2) := by
          have := HE.out
          rw [show min N 9 - k = 0 by omega, spVs] at this
          show vs = _ ∧ _
          simpa using this
        go_wp2
        go_ret
        exact ⟨_, rfl, by rw [← HF.out.1]; exact HG1.out, by rw [← HF.out.2]; exact HD.out, HT.out⟩
      · have hlti : ¬ (k : Int) < N := by omega
        have HF : Hid (vs = (spVs (min N 9) l (p + 1)).1 ∧ cur = (spVs (min N 9) l (p + 1)).2) := by
          have := HE.out
          rw [show min N 9 - k = 0 by omega, spVs] at this
          show vs = _ ∧ _
          simpa using this
        go_wp2
        go_ret
        exact ⟨_, rfl, by rw [← HF.out.1]; exact HG1.out, by rw [← HF.out.2]; exact HD.out, HT.out⟩
end Go.Proofs.YtikccmgpmbnkfaaGreat

namespace Go.Proofs.YtikccmgpmbnkfaaGreat
open Go.ChangeShapes Go.WideShapes Go.ChangeAt Go.RowKit
theorem Turns.rel (S : Nat → Prop) : Rel (Turns S) := ⟨fun w => Turns.refl S w, fun h k => h.trans k⟩
section
variable {P : Program} {ops : Array Oper} {md : Region.Mode} {Q : Act → World → Prop} {G : World → World → Prop}
theorem gAny_planXG (hG : Rel G) {x : Nat} (hE : endsB md ops x = true) (hs : Region.noSelect ops = true) (n : Nat) : ∀ (pl : List (List Nat × Nat)) (last : List Nat) (listed : Array Bool) (a : Act) (w : World), planX md ops x pl last listed = true →
    wpPlanG P ops G (fun a' w' => gOp P ops x Q a' w') pl last a w → gAny P md ops G Q (n + 1 + planLen pl last) listed a w
  | [], last, listed, a, w, hB, h => by
    simp only [planX, Bool.and_eq_true, List.isEmpty_iff, beq_iff_eq] at hB
    obtain ⟨⟨hl, hr⟩, h0⟩ := hB
    refine gAny_lights hG hs (n + 1) last listed a hl h fun a' hq => ⟨fun h1 => (by rw [hr] at h1; cases h1), fun i hi => ?_⟩
    rw [hr] at hi
    have hi : i = x := by simpa using hi
    subst hi
    exact gOp_mono (fun a'' w'' hh => ⟨Or.inl hE, gAny_more h0 hh n⟩) hq
  | (l, y) :: r, last, listed, a, w, hB, h => by
    simp only [planX, Bool.and_eq_true, beq_iff_eq] at hB
    obtain ⟨⟨hl, hr⟩, hB⟩ := hB
    have : n + 1 + planLen ((l, y) :: r) last = (n + 1 + planLen r last + 1) + l.length := by simp only [planLen]; omega
    rw [this]
    refine gAny_lights hG hs _ l listed a hl h fun a' hq => ⟨fun h0 => (by rw [hr] at h0; cases h0), fun i hi => ?_⟩
    rw [hr] at hi
    have hi : i = y := by simpa using hi
    subst hi
    exact gOp_mono (fun a'' w'' hh => ⟨Or.inr hh.1, gAny_planXG hG hE hs n r last _ a'' w'' hB hh.2⟩) hq
theorem region_storeG {id : Nat} {Q : Exit → Act → World → Prop} {a : Act} {w : World} {l : List Oper} (G : World → World → Prop) (hG : Rel G) (pl : List (List Nat × Nat)) (last : List Nat) (x : Nat) (hm : P.follows .mixedOrders = true) (hB : regionX l.toArray pl last x = true)
    (h : wpPlanG P l.toArray G (fun a' w' => gOp P l.toArray x (Q .normal) a' w') pl last a { w with drawn := w.drawn + 1 }) : (Code.region id l.toArray true).wp P Q a w := by
  simp only [regionX, Bool.and_eq_true, decide_eq_true_eq] at hB
  obtain ⟨⟨⟨hE, hs⟩, hB⟩, hn⟩ := hB
  refine wp_region_any hm (wpAny_of_gAny (G := G) (Q := Q .normal) (fun _ _ h => h) _ _ _ _ ?_)
  have := gAny_planXG (P := P) (Q := Q .normal) hG hE hs (l.toArray.size - (1 + planLen pl last)) pl last (Array.replicate l.toArray.size false) a _ hB h
  rwa [show l.toArray.size - (1 + planLen pl last) + 1 + planLen pl last = l.toArray.size by omega] at this
end
end Go.Proofs.YtikccmgpmbnkfaaGreat
