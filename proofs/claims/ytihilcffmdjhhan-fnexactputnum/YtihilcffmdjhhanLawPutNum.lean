/- For all bytes, every number and every size the landed PutNum answers as the given one does, leaves the bytes as they were, and its answer shares no memory: 'FnExactPutNum' returns true at all arguments, with no condition; its arguments read afterwards as they read before. -/
import Derived.Test.YtihilcffmdjhhanPn
import Derived.Deep.RegionWith
import Derived.Deep.DeepCutAuto
namespace Go.Proofs.Ytihilcffmdjhhan.lawPutNum
open Go.ChangeShapes Go.WideShapes Go.ChangeAt Go.RowKit

set_option maxRecDepth 100000 in
set_option maxHeartbeats 2000000 in
theorem walk (v : Value) (l : List UInt8) (n s : Int) (w : World) (hx : BytesV w v l) :
    Calls Try.prog 3 #[v, .int .i64 n, .int .i64 s] w fun e w' => e = .returned (.bool true) ∧ Below w.heap.size w w' := by
  obtain ⟨a, p, rfl, hlp, hm, hx⟩ := hx.lit
  unfold maxLen at hm
  by_cases hbig : 1048576 < l.length
  · have hbi : (1048576 : Int) < l.length := by omega
    go_enter Try.func3, Try.ntmps3
    go_wp2
    go_ret
    exact ⟨rfl, (by repeat (first | with_reducible exact Below.refl _ _ | with_reducible assumption | with_reducible refine ch_alloc ?_ _ | with_reducible refine Below.drew ?_ | with_reducible refine below_draws _ ?_ | (with_reducible refine Below.setCell ?_ ?_ _; rotate_left; focus (first | with_reducible exact Nat.le_refl _ | (simp; done) | (simp; omega) | (simp at *; omega))) | with_reducible refine ch_trans ?_ (by with_reducible assumption)))⟩
  have hsm : l.length ≤ 1048576 := by omega
  have hml : l.length ≤ maxLen := by unfold maxLen; omega
  have hbi : (l.length : Int) ≤ 1048576 := by omega
  have HX : Hid (BytesV w (.slice a l.length p) l) := hx
  clear hx hbig
  obtain ⟨q, L, hq⟩ : ∃ (q : Bool) (L : List UInt8), (q = true ∧ okPut n s ∧ L = l ++ numL n.toNat s.toNat) ∨ (q = false ∧ ¬ okPut n s ∧ L = []) := by
    by_cases h : okPut n s
    · exact ⟨true, _, Or.inl ⟨rfl, h, rfl⟩⟩
    · exact ⟨false, _, Or.inr ⟨rfl, h, rfl⟩⟩
  have hLl : L.length ≤ 1048582 := by
    rcases hq with ⟨_, h, rfl⟩ | ⟨_, _, rfl⟩
    · have := h.2.1
      rw [List.length_append, numL_length]; omega
    · simp
  have HSS : Hid (∀ (u : World) (B : Nat), Fill u B 5 1 l.length (l.map byX) → Calls Try.prog 8 #[.slice (some ⟨B, 0, none⟩) l.length l.length, .int .i64 n, .int .i64 s] u fun e w' => ∃ v', e = .returned (.tuple #[v', .bool q]) ∧ Below u.heap.size u w' ∧ Got w' u.heap.size 5 1 v' (L.map byX)) := fun u B h => putNum_spec B 0 l.length l n s u h.row (by omega) q L hq
  have HSI : Hid (∀ (u : World) (B : Nat), Fill u B 5 1 l.length (l.map byX) → Calls Try.prog 10 #[.slice (some ⟨B, 0, none⟩) l.length l.length, .int .i64 n, .int .i64 s] u fun e w' => ∃ v', e = .returned (.tuple #[v', .bool q]) ∧ Below u.heap.size u w' ∧ Got w' u.heap.size 5 1 v' (L.map byX)) := fun u B h => putNum_impl B 0 l.length l n s u h.row (by omega) q L hq
  have HTB : Hid (∀ u : World, BytesV u (.slice a l.length p) l → Calls Try.prog 9 #[.slice a l.length p] u fun e w' => ∃ B, e = .returned (.slice (some ⟨B, 0, none⟩) l.length l.length) ∧ u.heap.size ≤ B ∧ Below u.heap.size u w' ∧ Fill w' B 5 1 l.length (l.map byX)) := fun u hu => (toByteS_full _ l u hu hsm).mono fun e w' ⟨he, hb, hf⟩ => ⟨_, he, Nat.le_refl _, hb, hf⟩
  have hqq : (q != q) = false := by simp
  have hkl' : (L.map byX).length ≤ 2000000 := by simp; omega
  clear hq
  go_enter Try.func3, Try.ntmps3
  go_wp2_with fail
  refine (HTB.out _ (HX.out.on (by repeat (first | with_reducible exact Below.refl _ _ | with_reducible assumption | with_reducible refine ch_alloc ?_ _ | with_reducible refine Below.drew ?_ | with_reducible refine below_draws _ ?_ | (with_reducible refine Below.setCell ?_ ?_ _; rotate_left; focus (first | with_reducible exact Nat.le_refl _ | (simp; done) | (simp; omega) | (simp at *; omega))) | with_reducible refine ch_trans ?_ (by with_reducible assumption))))).mono ?_
  rintro e w1 ⟨B0, rfl, _, b1, hf0⟩
  have HF0 : Hid (Fill w1 B0 5 1 l.length (l.map byX)) := hf0
  clear hf0
  go_wp2_with fail
  refine (HSS.out _ _ HF0.out).mono ?_
  rintro e w2 ⟨v0, rfl, b2, hg0⟩
  obtain ⟨a0, n0, e0, rfl, hg0⟩ := hg0.lit2
  have HG0 : Hid (Got w2 w1.heap.size 5 1 (.slice a0 n0 e0) (L.map byX)) := hg0
  have hw2 : Below w.heap.size w w2 := (by repeat (first | with_reducible exact Below.refl _ _ | with_reducible assumption | with_reducible refine ch_alloc ?_ _ | with_reducible refine Below.drew ?_ | with_reducible refine below_draws _ ?_ | (with_reducible refine Below.setCell ?_ ?_ _; rotate_left; focus (first | with_reducible exact Nat.le_refl _ | (simp; done) | (simp; omega) | (simp at *; omega))) | with_reducible refine ch_trans ?_ (by with_reducible assumption)))
  clear hg0 HF0 b1 b2
  go_wp2_with fail
  refine (HTB.out _ (HX.out.on hw2)).mono ?_
  rintro e w3 ⟨B1, rfl, hB1, b3, hf1⟩
  have HF1 : Hid (Fill w3 B1 5 1 l.length (l.map byX)) := hf1
  have hlt1 : B1 < w3.heap.size := hf1.lt
  clear hf1
  go_wp2_with fail
  refine (HSI.out _ _ HF1.out).mono ?_
  rintro e w4 ⟨v1, rfl, b4, hg1⟩
  obtain ⟨a1, n1, e1, rfl, hg1⟩ := hg1.lit2
  have HG1 : Hid (Got w4 w3.heap.size 5 1 (.slice a1 n1 e1) (L.map byX)) := hg1
  have HG04 : Hid (Got w4 w1.heap.size 5 1 (.slice a0 n0 e0) (L.map byX)) := HG0.out.on (by repeat (first | with_reducible exact Below.refl _ _ | with_reducible assumption | with_reducible refine ch_alloc ?_ _ | with_reducible refine Below.drew ?_ | with_reducible refine below_draws _ ?_ | (with_reducible refine Below.setCell ?_ ?_ _; rotate_left; focus (first | with_reducible exact Nat.le_refl _ | (simp; done) | (simp; omega) | (simp at *; omega))) | with_reducible refine ch_trans ?_ (by with_reducible assumption)))
  clear hg1
  go_wp2_with fail
  refine (eqByteS_same _ _ L _ HG1.out.bytes HG04.out.bytes).mono ?_
  rintro e w5 ⟨rfl, b5⟩
  go_wp2_with fail
  refine (HTB.out _ (HX.out.on (w' := w5) (by repeat (first | with_reducible exact Below.refl _ _ | with_reducible assumption | with_reducible refine ch_alloc ?_ _ | with_reducible refine Below.drew ?_ | with_reducible refine below_draws _ ?_ | (with_reducible refine Below.setCell ?_ ?_ _; rotate_left; focus (first | with_reducible exact Nat.le_refl _ | (simp; done) | (simp; omega) | (simp at *; omega))) | with_reducible refine ch_trans ?_ (by with_reducible assumption))))).mono ?_
  rintro e w6 ⟨B2, rfl, _, b6, hf2⟩
  have HF2 : Hid (Fill w6 B2 5 1 l.length (l.map byX)) := hf2
  have HF16 : Hid (Fill w6 B1 5 1 l.length (l.map byX)) := HF1.out.on (by repeat (first | with_reducible exact Below.refl _ _ | with_reducible assumption | with_reducible refine ch_alloc ?_ _ | with_reducible refine Below.drew ?_ | with_reducible refine below_draws _ ?_ | (with_reducible refine Below.setCell ?_ ?_ _; rotate_left; focus (first | with_reducible exact Nat.le_refl _ | (simp; done) | (simp; omega) | (simp at *; omega))) | with_reducible refine ch_trans ?_ (by with_reducible assumption)))
  clear hf2
  go_wp2_with fail
  refine (eqByteS_same _ _ l _ (HF16.out.bytesV hml) (HF2.out.bytesV hml)).mono ?_
  rintro e w7 ⟨rfl, b7⟩
  obtain ⟨f1, hr1⟩ := (HF1.out.on (w' := w7) (by repeat (first | with_reducible exact Below.refl _ _ | with_reducible assumption | with_reducible refine ch_alloc ?_ _ | with_reducible refine Below.drew ?_ | with_reducible refine below_draws _ ?_ | (with_reducible refine Below.setCell ?_ ?_ _; rotate_left; focus (first | with_reducible exact Nat.le_refl _ | (simp; done) | (simp; omega) | (simp at *; omega))) | with_reducible refine ch_trans ?_ (by with_reducible assumption)))).rowIs
  have HR1 : Hid (w7.rowIs B1 5 (l.length * 1) f1) := hr1
  have HG17 : Hid (Got w7 w3.heap.size 5 1 (.slice a1 n1 e1) (L.map byX)) := HG1.out.on (w' := w7) (by repeat (first | with_reducible exact Below.refl _ _ | with_reducible assumption | with_reducible refine ch_alloc ?_ _ | with_reducible refine Below.drew ?_ | with_reducible refine below_draws _ ?_ | (with_reducible refine Below.setCell ?_ ?_ _; rotate_left; focus (first | with_reducible exact Nat.le_refl _ | (simp; done) | (simp; omega) | (simp at *; omega))) | with_reducible refine ch_trans ?_ (by with_reducible assumption)))
  have HBd : Hid (Below w2.heap.size w2 w7) := by show Below _ _ _; exact (by repeat (first | with_reducible exact Below.refl _ _ | with_reducible assumption | with_reducible refine ch_alloc ?_ _ | with_reducible refine Below.drew ?_ | with_reducible refine below_draws _ ?_ | (with_reducible refine Below.setCell ?_ ?_ _; rotate_left; focus (first | with_reducible exact Nat.le_refl _ | (simp; done) | (simp; omega) | (simp at *; omega))) | with_reducible refine ch_trans ?_ (by with_reducible assumption)))
  have hs7 : w3.heap.size ≤ w7.heap.size := (show Below w3.heap.size w3 w7 from (by repeat (first | with_reducible exact Below.refl _ _ | with_reducible assumption | with_reducible refine ch_alloc ?_ _ | with_reducible refine Below.drew ?_ | with_reducible refine below_draws _ ?_ | (with_reducible refine Below.setCell ?_ ?_ _; rotate_left; focus (first | with_reducible exact Nat.le_refl _ | (simp; done) | (simp; omega) | (simp at *; omega))) | with_reducible refine ch_trans ?_ (by with_reducible assumption)))).size
  have hs3 : w2.heap.size ≤ w3.heap.size := b3.size
  clear hr1 b3 b4 b5 b6 b7
  go_wp2_with fail
  refine (markByteS_wide B1 l.length l.length _ _ f1 1 _ HR1.out (by omega) (by omega) (by omega)).mono ?_
  rintro e w8 ⟨rfl, hT1, _⟩
  have hK1b : 0 ≤ 1 + l.length := Nat.zero_le _
  generalize 1 + l.length = K1 at hK1b ⊢
  have hk0 : decide ((K1 : Int) < 0) = false := by simp
  have HT1 : Hid (Turns (· = B1) w7 w8) := hT1
  have HBe : Hid (Below w2.heap.size w2 w8) := HBd.out.trans (HT1.out.toBelow (fun c h => by have h : c = B1 := h; omega) (by omega))
  have HG08 : Hid (Got w8 w1.heap.size 5 1 (.slice a0 n0 e0) (L.map byX)) := HG0.out.on HBe.out
  have HG18 : Hid (Got w8 w3.heap.size 5 1 (.slice a1 n1 e1) (L.map byX)) := HG17.out.turns HT1.out fun c h => by have h : c = B1 := h; omega
  have hs8 : w3.heap.size ≤ w8.heap.size := Nat.le_trans hs7 HT1.out.size
  clear hT1
  go_wp2_with (go_at_call 11; refine (eqByteS_same _ _ L _ HG18.out.bytes HG08.out.bytes).mono ?_; rintro e w9 ⟨rfl, b9⟩)
  have HG19 : Hid (Got w9 w3.heap.size 5 1 (.slice a1 n1 e1) (L.map byX)) := HG18.out.on b9
  have HBf : Hid (Below w2.heap.size w2 w9) := ch_trans HBe.out b9
  have hs9 : w3.heap.size ≤ w9.heap.size := Nat.le_trans hs8 b9.size
  clear b9
  refine (markByteS_got HG19.out hkl' 1 (by omega)).mono ?_
  rintro e w10 ⟨rfl, hT3, hheld⟩
  have HH : Hid (HeldL w10 (.slice a1 n1 e1) 1 (markY 1) (L.map byX).length) := hheld
  have HBg : Hid (Below w2.heap.size w2 w10) := HBf.out.trans (hT3.toBelow (fun c h => by have := HG19.out.own h; omega) (by omega))
  have HHS : Hid (∀ u : World, HeldL u (.slice a1 n1 e1) 1 (markY 1) (L.map byX).length → Calls Try.prog 13 #[.slice a1 n1 e1, .int .i64 1] u fun e w' => e = .returned (.int .i64 ((1 + (L.map byX).length : Nat) : Int)) ∧ Below u.heap.size u w') := fun u hu => heldByteS_held (k := 1) hu hkl' (by omega)
  clear hT3 hheld
  generalize 1 + (L.map byX).length = M at HHS ⊢
  have hm0 : decide ((M : Int) < 0) = false := by simp
  have hmm : ((M : Int) != M) = false := by simp
  go_wp2_with fail
  refine (HHS.out _ HH.out).mono ?_
  rintro e w11 ⟨rfl, b11⟩
  have HH11 : Hid (HeldL w11 (.slice a1 n1 e1) 1 (markY 1) (L.map byX).length) := HH.out.on b11
  have HB11 : Hid (Below w2.heap.size w2 w11) := ch_trans HBg.out b11
  have HG011 : Hid (Got w11 w1.heap.size 5 1 (.slice a0 n0 e0) (L.map byX)) := HG0.out.on HB11.out
  have hw11 : Below w.heap.size w w11 := ch_trans hw2 HB11.out
  clear b11
  go_wp2_with fail
  refine (HTB.out _ (HX.out.on hw11)).mono ?_
  rintro e w12 ⟨B3, rfl, _, b12, hf3⟩
  have HF3 : Hid (Fill w12 B3 5 1 l.length (l.map byX)) := hf3
  clear hf3
  go_wp2_with fail
  refine (HSI.out _ _ HF3.out).mono ?_
  rintro e w13 ⟨v2, rfl, b13, hg2⟩
  obtain ⟨a2, n2, e2, rfl, hg2⟩ := hg2.lit2
  have HG2 : Hid (Got w13 w12.heap.size 5 1 (.slice a2 n2 e2) (L.map byX)) := hg2
  have HG013 : Hid (Got w13 w1.heap.size 5 1 (.slice a0 n0 e0) (L.map byX)) := HG011.out.on (by repeat (first | with_reducible exact Below.refl _ _ | with_reducible assumption | with_reducible refine ch_alloc ?_ _ | with_reducible refine Below.drew ?_ | with_reducible refine below_draws _ ?_ | (with_reducible refine Below.setCell ?_ ?_ _; rotate_left; focus (first | with_reducible exact Nat.le_refl _ | (simp; done) | (simp; omega) | (simp at *; omega))) | with_reducible refine ch_trans ?_ (by with_reducible assumption)))
  have HH13 : Hid (HeldL w13 (.slice a1 n1 e1) 1 (markY 1) (L.map byX).length) := HH11.out.on (by repeat (first | with_reducible exact Below.refl _ _ | with_reducible assumption | with_reducible refine ch_alloc ?_ _ | with_reducible refine Below.drew ?_ | with_reducible refine below_draws _ ?_ | (with_reducible refine Below.setCell ?_ ?_ _; rotate_left; focus (first | with_reducible exact Nat.le_refl _ | (simp; done) | (simp; omega) | (simp at *; omega))) | with_reducible refine ch_trans ?_ (by with_reducible assumption)))
  clear hg2
  go_wp2_with fail
  refine (eqByteS_same _ _ L _ HG2.out.bytes HG013.out.bytes).mono ?_
  rintro e w14 ⟨rfl, b14⟩
  go_wp2_with fail
  refine (HHS.out _ (HH13.out.on b14)).mono ?_
  rintro e w15 ⟨rfl, b15⟩
  go_wp2
  go_ret
  exact ⟨rfl, (by repeat (first | with_reducible exact Below.refl _ _ | with_reducible assumption | with_reducible refine ch_alloc ?_ _ | with_reducible refine Below.drew ?_ | with_reducible refine below_draws _ ?_ | (with_reducible refine Below.setCell ?_ ?_ _; rotate_left; focus (first | with_reducible exact Nat.le_refl _ | (simp; done) | (simp; omega) | (simp at *; omega))) | with_reducible refine ch_trans ?_ (by with_reducible assumption)))⟩

theorem own : ownKnob Try.prog.godebug = none := by kernel_rfl
theorem laidOut : laidOutB Try.prog = true := by kernel_rfl

set_option maxRecDepth 100000 in
theorem lifted (os : Os) (started : os.Started) (H : Type) (enc : TypeId × Value → H) :
    ReturnsInHanded {} Try.checked os 3 .any (Rows.fnExactPutNumSpec.pre6 enc Try.prog Try.f3 Rows.fnExactPutNumRow.domain false) (Rows.fnExactPutNumSpec.post enc Try.prog Try.f3 false true false false) := by
  refine returnsInHanded_of_change (C := Try.checked) own started (by kernel_rfl) Try.func3
    (ChangeSpec.witness6 (enc := enc) (C := Try.checked) false ⟨#[], #[.slice none 0 0, .int .i64 0, .int .i64 0], []⟩ 8 (by kernel_rfl) (by kernel_rfl) (by kernel_rfl) (by kernel_rfl)) ?_
  intro W base args ds gs before hval0 hW _ _
  have hval : ∀ (j : Nat) t v, Try.f3.params[j]? = some t → args[j]? = some v → Value.okWide Try.prog W .any base t v := hval0
  have hW' := hW
  obtain ⟨p, q, hA0, hV, rfl, _, _⟩ := hW
  have hA : DataW.TrodAll enc Try.prog W 0 (fun _ => true) true Try.f3.params.toList args.toList ds p := hA0
  rw [Try.params3] at hA hval
  obtain ⟨v0, v1, v2, d0, d1, d2, p0, p1, p2, rfl, rfl, rfl, h0, h1, h2⟩ := trodAll_three hA
  obtain ⟨rfl, rfl⟩ := trodVars_none hV
  have h0k := h0
  obtain ⟨a0, len0, cap0, rfl⟩ := okWide_slice Try.underlying22 (hval 0 22 v0 rfl rfl)
  obtain ⟨k, hk⟩ := h0
  obtain ⟨x, l, hc, hx⟩ := open_bytes hk
  have hc' : x = .slice a0 len0 cap0 := by simpa [Value.cells] using hc.symm
  subst hc'
  obtain ⟨n, rfl, rfl, rfl, wn⟩ := open_int Try.underlying3 (hval 1 3 v1 rfl rfl) h1
  obtain ⟨s, rfl, rfl, rfl, ws⟩ := open_int Try.underlying3 (hval 2 3 v2 rfl rfl) h2
  clear hA0 hval0
  simp only [List.append_nil] at hW'
  have hlt : ∀ x ∈ p0, x.block < W.heap.size := fun x hx => by simpa using hW'.lt x (by simp [hx])
  refine (walk _ l n s W hx).mono fun e W' ⟨he, bel⟩ => ?_
  subst he
  exact ⟨_, rfl, _, _, _, [], _, [], hW', trodAll_mk1 (shut_bool Try.underlying4 _), trodAll_mk3 (Below.trod laidOut (by kernel_rfl) (of_decide_eq_true (by kernel_rfl)) h0k bel hlt) (shut_int Try.underlying3 wn) (shut_int Try.underlying3 ws), rfl, bel.frame _, fun h => by cases h⟩

theorem over : Rows.FnExactPutNumSaid :=
  OpenClaim.holds_of_wide 3 Try.f3 rfl rfl rfl rfl rfl rfl rfl ⟨rfl, rfl, rfl, rfl, rfl⟩ rfl rfl rfl rfl rfl (by kernel_rfl) Try.func3 (by kernel_rfl)
    (of_decide_eq_true (by kernel_rfl)) (by unfold Func.isWrapper; first | (rw [if_pos (by decide +kernel)]; kernel_rfl) | (rw [if_neg (by decide +kernel)]; exact ⟨rfl, rfl⟩))
    (fun os started H enc _ => lifted os started H enc)
end Go.Proofs.Ytihilcffmdjhhan.lawPutNum
namespace Go.Proofs.Ytihilcffmdjhhan
theorem fnExactPutNum_holds : Rows.FnExactPutNumSaid := lawPutNum.over
#print axioms fnExactPutNum_holds
end Go.Proofs.Ytihilcffmdjhhan
