/- For every row of values the landed RowBytes answers as the given one does, leaves the values as they were, and its answer shares no memory: 'FnExactRowBytes' returns true at all arguments, with no condition; its argument reads afterwards as it read before. -/
import Derived.Test.YtihilcffmdjhhanWu
import Derived.Test.YtihilcffmdjhhanOpenW
import Derived.Deep.RegionWith
import Derived.Deep.DeepCutAuto
namespace Go.Proofs.Ytihilcffmdjhhan.lawRowBytes
open Go.ChangeShapes Go.WideShapes Go.ChangeAt Go.RowKit

set_option maxRecDepth 100000 in
set_option maxHeartbeats 2000000 in
theorem walk (v : Value) (vs : List Vc) (w : World) (hx : ValsV w v vs) (hfit : vfit vs) :
    Calls Try.prog 6 #[v] w fun e w' => e = .returned (.bool true) ∧ Below w.heap.size w w' := by
  obtain ⟨a, p, rfl, hlp, hm, hx⟩ := hx.lit
  unfold maxLen at hm
  have HX : Hid (ValsV w (.slice a vs.length p) vs) := hx
  clear hx
  obtain ⟨q, L, hq⟩ : ∃ (q : Bool) (L : List UInt8), (q = true ∧ okRow vs ∧ L = rowL vs) ∨ (q = false ∧ ¬ okRow vs ∧ L = []) := by
    by_cases h : okRow vs
    · exact ⟨true, _, Or.inl ⟨rfl, h, rfl⟩⟩
    · exact ⟨false, _, Or.inr ⟨rfl, h, rfl⟩⟩
  have hLl : L.length ≤ 1000 := by
    rcases hq with ⟨_, h, rfl⟩ | ⟨_, _, rfl⟩
    · have := rowL_length h
      omega
    · simp
  have hqq : (q != q) = false := by simp
  have hkl' : (L.map byX).length ≤ 2000000 := by simp; omega
  have HSS : Hid (∀ (u : World) (B : Nat), vs.length ≤ maxLen → Fill u B 35 3 vs.length (vs.map Vc.cells) → Calls Try.prog 21 #[.slice (some ⟨B, 0, none⟩) vs.length vs.length] u fun e w' => ∃ v', e = .returned (.tuple #[v', .bool q]) ∧ Below u.heap.size u w' ∧ Got w' u.heap.size 5 1 v' (L.map byX)) := fun u B hm h => rowBytes_spec _ vs u (h.valsV hm) q L hq
  have HSI : Hid (∀ (u : World) (B : Nat), vs.length ≤ maxLen → Fill u B 35 3 vs.length (vs.map Vc.cells) → Calls Try.prog 23 #[.slice (some ⟨B, 0, none⟩) vs.length vs.length] u fun e w' => ∃ v', e = .returned (.tuple #[v', .bool q]) ∧ Below u.heap.size u w' ∧ Got w' u.heap.size 5 1 v' (L.map byX)) := fun u B hm h => rowBytes_impl _ vs u (h.valsV hm) q L hq
  clear hq
  go_enter Try.func6, Try.ntmps6
  go_wp2_with fail
  refine (szValS_any _ vs _ _ (HX.out.on (by repeat (first | with_reducible exact Below.refl _ _ | with_reducible assumption | with_reducible refine ch_alloc ?_ _ | with_reducible refine Below.drew ?_ | with_reducible refine below_draws _ ?_ | (with_reducible refine Below.setCell ?_ ?_ _; rotate_left; focus (first | with_reducible exact Nat.le_refl _ | (simp; done) | (simp; omega) | (simp at *; omega))) | with_reducible refine ch_trans ?_ (by with_reducible assumption)))) hfit (by omega) (by omega)).mono ?_
  rintro e wz ⟨r, rfl, bz, hr⟩
  rcases hr with rfl | ⟨r0, r1, hsm⟩
  · go_wp2
    go_ret
    exact ⟨rfl, (by repeat (first | with_reducible exact Below.refl _ _ | with_reducible assumption | with_reducible refine ch_alloc ?_ _ | with_reducible refine Below.drew ?_ | with_reducible refine below_draws _ ?_ | (with_reducible refine Below.setCell ?_ ?_ _; rotate_left; focus (first | with_reducible exact Nat.le_refl _ | (simp; done) | (simp; omega) | (simp at *; omega))) | with_reducible refine ch_trans ?_ (by with_reducible assumption)))⟩
  have hml : vs.length ≤ maxLen := by unfold maxLen; omega
  have HTB : Hid (∀ u : World, ValsV u (.slice a vs.length p) vs → Calls Try.prog 22 #[.slice a vs.length p] u fun e w' => ∃ B, e = .returned (.slice (some ⟨B, 0, none⟩) vs.length vs.length) ∧ u.heap.size ≤ B ∧ Below u.heap.size u w' ∧ Fill w' B 35 3 vs.length (vs.map Vc.cells)) := fun u hu => (toValS_any _ vs u hu hsm).mono fun e w' ⟨he, hb, hf⟩ => ⟨_, he, Nat.le_refl _, hb, hf⟩
  go_wp2_with fail
  refine (HTB.out _ (HX.out.on (by repeat (first | with_reducible exact Below.refl _ _ | with_reducible assumption | with_reducible refine ch_alloc ?_ _ | with_reducible refine Below.drew ?_ | with_reducible refine below_draws _ ?_ | (with_reducible refine Below.setCell ?_ ?_ _; rotate_left; focus (first | with_reducible exact Nat.le_refl _ | (simp; done) | (simp; omega) | (simp at *; omega))) | with_reducible refine ch_trans ?_ (by with_reducible assumption))))).mono ?_
  rintro e w1 ⟨B0, rfl, _, b1, hf0⟩
  have HF0 : Hid (Fill w1 B0 35 3 vs.length (vs.map Vc.cells)) := hf0
  clear hf0
  go_wp2_with fail
  refine (HSS.out _ _ hml HF0.out).mono ?_
  rintro e w2 ⟨v0, rfl, b2, hg0⟩
  obtain ⟨a0, n0, e0, rfl, hg0⟩ := hg0.lit2
  have HG0 : Hid (Got w2 w1.heap.size 5 1 (.slice a0 n0 e0) (L.map byX)) := hg0
  have hw2 : Below w.heap.size w w2 := (by repeat (first | with_reducible exact Below.refl _ _ | with_reducible assumption | with_reducible refine ch_alloc ?_ _ | with_reducible refine Below.drew ?_ | with_reducible refine below_draws _ ?_ | (with_reducible refine Below.setCell ?_ ?_ _; rotate_left; focus (first | with_reducible exact Nat.le_refl _ | (simp; done) | (simp; omega) | (simp at *; omega))) | with_reducible refine ch_trans ?_ (by with_reducible assumption)))
  clear hg0 HF0 b1 b2 bz
  go_wp2_with fail
  refine (HTB.out _ (HX.out.on hw2)).mono ?_
  rintro e w3 ⟨B1, rfl, hB1, b3, hf1⟩
  have HF1 : Hid (Fill w3 B1 35 3 vs.length (vs.map Vc.cells)) := hf1
  have hlt1 : B1 < w3.heap.size := hf1.lt
  clear hf1
  go_wp2_with fail
  refine (HSI.out _ _ hml HF1.out).mono ?_
  rintro e w4 ⟨v1, rfl, b4, hg1⟩
  obtain ⟨a1, n1, e1, rfl, hg1⟩ := hg1.lit2
  have HG1 : Hid (Got w4 w3.heap.size 5 1 (.slice a1 n1 e1) (L.map byX)) := hg1
  have HG04 : Hid (Got w4 w1.heap.size 5 1 (.slice a0 n0 e0) (L.map byX)) := HG0.out.on (by repeat (first | with_reducible exact Below.refl _ _ | with_reducible assumption | with_reducible refine ch_alloc ?_ _ | with_reducible refine Below.drew ?_ | with_reducible refine below_draws _ ?_ | (with_reducible refine Below.setCell ?_ ?_ _; rotate_left; focus (first | with_reducible exact Nat.le_refl _ | (simp; done) | (simp; omega) | (simp at *; omega))) | with_reducible refine ch_trans ?_ (by with_reducible assumption)))
  clear hg1
  go_wp2_with fail
  refine (eqByteS_same _ _ L _ HG1.out.bytes HG04.out.bytes).mono ?_
  rintro e w5 ⟨rfl, b5⟩
  go_wp2_with fail
  refine (HTB.out _ (HX.out.on (w' := w5) (by repeat (first | with_reducible exact Below.refl _ _ | with_reducible assumption | with_reducible refine ch_alloc ?_ _ | with_reducible refine Below.drew ?_ | with_reducible refine below_draws _ ?_ | (with_reducible refine Below.setCell ?_ ?_ _; rotate_left; focus (first | with_reducible exact Nat.le_refl _ | (simp; done) | (simp; omega) | (simp at *; omega))) | with_reducible refine ch_trans ?_ (by with_reducible assumption))))).mono ?_
  rintro e w6 ⟨B2, rfl, _, b6, hf2⟩
  have HF2 : Hid (Fill w6 B2 35 3 vs.length (vs.map Vc.cells)) := hf2
  have HF16 : Hid (Fill w6 B1 35 3 vs.length (vs.map Vc.cells)) := HF1.out.on (by repeat (first | with_reducible exact Below.refl _ _ | with_reducible assumption | with_reducible refine ch_alloc ?_ _ | with_reducible refine Below.drew ?_ | with_reducible refine below_draws _ ?_ | (with_reducible refine Below.setCell ?_ ?_ _; rotate_left; focus (first | with_reducible exact Nat.le_refl _ | (simp; done) | (simp; omega) | (simp at *; omega))) | with_reducible refine ch_trans ?_ (by with_reducible assumption)))
  clear hf2
  go_wp2_with fail
  refine (eqValS_same _ _ vs _ (HF16.out.valsV hml) (HF2.out.valsV hml)).mono ?_
  rintro e w7 ⟨rfl, b7⟩
  obtain ⟨f1, hr1⟩ := (HF1.out.on (w' := w7) (by repeat (first | with_reducible exact Below.refl _ _ | with_reducible assumption | with_reducible refine ch_alloc ?_ _ | with_reducible refine Below.drew ?_ | with_reducible refine below_draws _ ?_ | (with_reducible refine Below.setCell ?_ ?_ _; rotate_left; focus (first | with_reducible exact Nat.le_refl _ | (simp; done) | (simp; omega) | (simp at *; omega))) | with_reducible refine ch_trans ?_ (by with_reducible assumption)))).rowIs
  have HR1 : Hid (w7.rowIs B1 35 (vs.length * 3) f1) := hr1
  have HG17 : Hid (Got w7 w3.heap.size 5 1 (.slice a1 n1 e1) (L.map byX)) := HG1.out.on (w' := w7) (by repeat (first | with_reducible exact Below.refl _ _ | with_reducible assumption | with_reducible refine ch_alloc ?_ _ | with_reducible refine Below.drew ?_ | with_reducible refine below_draws _ ?_ | (with_reducible refine Below.setCell ?_ ?_ _; rotate_left; focus (first | with_reducible exact Nat.le_refl _ | (simp; done) | (simp; omega) | (simp at *; omega))) | with_reducible refine ch_trans ?_ (by with_reducible assumption)))
  have HBd : Hid (Below w2.heap.size w2 w7) := by show Below _ _ _; exact (by repeat (first | with_reducible exact Below.refl _ _ | with_reducible assumption | with_reducible refine ch_alloc ?_ _ | with_reducible refine Below.drew ?_ | with_reducible refine below_draws _ ?_ | (with_reducible refine Below.setCell ?_ ?_ _; rotate_left; focus (first | with_reducible exact Nat.le_refl _ | (simp; done) | (simp; omega) | (simp at *; omega))) | with_reducible refine ch_trans ?_ (by with_reducible assumption)))
  have hs7 : w3.heap.size ≤ w7.heap.size := (show Below w3.heap.size w3 w7 from (by repeat (first | with_reducible exact Below.refl _ _ | with_reducible assumption | with_reducible refine ch_alloc ?_ _ | with_reducible refine Below.drew ?_ | with_reducible refine below_draws _ ?_ | (with_reducible refine Below.setCell ?_ ?_ _; rotate_left; focus (first | with_reducible exact Nat.le_refl _ | (simp; done) | (simp; omega) | (simp at *; omega))) | with_reducible refine ch_trans ?_ (by with_reducible assumption)))).size
  have hs3 : w2.heap.size ≤ w3.heap.size := b3.size
  clear hr1 b3 b4 b5 b6 b7
  go_wp2_with fail
  refine (markValS_any B1 vs.length vs.length _ _ f1 1 _ HR1.out (Nat.le_refl _) hsm (by omega)).mono ?_
  rintro e w8 ⟨rfl, hT1, _⟩
  have hK1b : 0 ≤ 1 + vs.length * 3 := Nat.zero_le _
  generalize 1 + vs.length * 3 = K1 at hK1b ⊢
  have hk0 : decide ((K1 : Int) < 0) = false := by simp
  have HT1 : Hid (Turns (· = B1) w7 w8) := hT1
  have HBe : Hid (Below w2.heap.size w2 w8) := HBd.out.trans (HT1.out.toBelow (fun c h => by have h : c = B1 := h; omega) (by omega))
  have HG08 : Hid (Got w8 w1.heap.size 5 1 (.slice a0 n0 e0) (L.map byX)) := HG0.out.on HBe.out
  have HG18 : Hid (Got w8 w3.heap.size 5 1 (.slice a1 n1 e1) (L.map byX)) := HG17.out.turns HT1.out fun c h => by have h : c = B1 := h; omega
  have hs8 : w3.heap.size ≤ w8.heap.size := Nat.le_trans hs7 HT1.out.size
  clear hT1
  go_wp2_with (go_at_call 11; refine (eqByteS_same _ _ L _ HG18.out.bytes HG08.out.bytes).mono ?_; rintro e w9 ⟨rfl, b9⟩)
  have HG19 : Hid (Got w9 w3.heap.size 5 1 (.slice a1 n1 e1) (L.map byX)) := HG18.out.on b9
  have HBf : Hid (Below w2.heap.size w2 w9) := ch_trans HBe.out b9
  have hs9 : w3.heap.size ≤ w9.heap.size := Nat.le_trans hs8 b9.size
  clear b9
  refine (markByteS_got HG19.out hkl' 1 (by omega)).mono ?_
  rintro e w10 ⟨rfl, hT3, hheld⟩
  have HH : Hid (HeldL w10 (.slice a1 n1 e1) 1 (markY 1) (L.map byX).length) := hheld
  have HBg : Hid (Below w2.heap.size w2 w10) := HBf.out.trans (hT3.toBelow (fun c h => by have := HG19.out.own h; omega) (by omega))
  have HHS : Hid (∀ u : World, HeldL u (.slice a1 n1 e1) 1 (markY 1) (L.map byX).length → Calls Try.prog 13 #[.slice a1 n1 e1, .int .i64 1] u fun e w' => e = .returned (.int .i64 ((1 + (L.map byX).length : Nat) : Int)) ∧ Below u.heap.size u w') := fun u hu => heldByteS_held (k := 1) hu hkl' (by omega)
  clear hT3 hheld
  generalize 1 + (L.map byX).length = M at HHS ⊢
  have hm0 : decide ((M : Int) < 0) = false := by simp
  have hmm : ((M : Int) != M) = false := by simp
  go_wp2_with fail
  refine (HHS.out _ HH.out).mono ?_
  rintro e w11 ⟨rfl, b11⟩
  have HH11 : Hid (HeldL w11 (.slice a1 n1 e1) 1 (markY 1) (L.map byX).length) := HH.out.on b11
  have HB11 : Hid (Below w2.heap.size w2 w11) := ch_trans HBg.out b11
  have HG011 : Hid (Got w11 w1.heap.size 5 1 (.slice a0 n0 e0) (L.map byX)) := HG0.out.on HB11.out
  have hw11 : Below w.heap.size w w11 := ch_trans hw2 HB11.out
  clear b11
  go_wp2_with fail
  refine (HTB.out _ (HX.out.on hw11)).mono ?_
  rintro e w12 ⟨B3, rfl, _, b12, hf3⟩
  have HF3 : Hid (Fill w12 B3 35 3 vs.length (vs.map Vc.cells)) := hf3
  clear hf3
  go_wp2_with fail
  refine (HSI.out _ _ hml HF3.out).mono ?_
  rintro e w13 ⟨v2, rfl, b13, hg2⟩
  obtain ⟨a2, n2, e2, rfl, hg2⟩ := hg2.lit2
  have HG2 : Hid (Got w13 w12.heap.size 5 1 (.slice a2 n2 e2) (L.map byX)) := hg2
  have HG013 : Hid (Got w13 w1.heap.size 5 1 (.slice a0 n0 e0) (L.map byX)) := HG011.out.on (by repeat (first | with_reducible exact Below.refl _ _ | with_reducible assumption | with_reducible refine ch_alloc ?_ _ | with_reducible refine Below.drew ?_ | with_reducible refine below_draws _ ?_ | (with_reducible refine Below.setCell ?_ ?_ _; rotate_left; focus (first | with_reducible exact Nat.le_refl _ | (simp; done) | (simp; omega) | (simp at *; omega))) | with_reducible refine ch_trans ?_ (by with_reducible assumption)))
  have HH13 : Hid (HeldL w13 (.slice a1 n1 e1) 1 (markY 1) (L.map byX).length) := HH11.out.on (by repeat (first | with_reducible exact Below.refl _ _ | with_reducible assumption | with_reducible refine ch_alloc ?_ _ | with_reducible refine Below.drew ?_ | with_reducible refine below_draws _ ?_ | (with_reducible refine Below.setCell ?_ ?_ _; rotate_left; focus (first | with_reducible exact Nat.le_refl _ | (simp; done) | (simp; omega) | (simp at *; omega))) | with_reducible refine ch_trans ?_ (by with_reducible assumption)))
  clear hg2
  go_wp2_with fail
  refine (eqByteS_same _ _ L _ HG2.out.bytes HG013.out.bytes).mono ?_
  rintro e w14 ⟨rfl, b14⟩
  go_wp2_with fail
  refine (HHS.out _ (HH13.out.on b14)).mono ?_
  rintro e w15 ⟨rfl, b15⟩
  go_wp2
  go_ret
  exact ⟨rfl, (by repeat (first | with_reducible exact Below.refl _ _ | with_reducible assumption | with_reducible refine ch_alloc ?_ _ | with_reducible refine Below.drew ?_ | with_reducible refine below_draws _ ?_ | (with_reducible refine Below.setCell ?_ ?_ _; rotate_left; focus (first | with_reducible exact Nat.le_refl _ | (simp; done) | (simp; omega) | (simp at *; omega))) | with_reducible refine ch_trans ?_ (by with_reducible assumption)))⟩

theorem own : ownKnob Try.prog.godebug = none := by kernel_rfl
theorem laidOut : laidOutB Try.prog = true := by kernel_rfl

set_option maxRecDepth 100000 in
theorem lifted (os : Os) (started : os.Started) (H : Type) (enc : TypeId × Value → H) :
    ReturnsInHanded {} Try.checked os 6 .any (Rows.fnExactRowBytesSpec.pre6 enc Try.prog Try.f6 Rows.fnExactRowBytesRow.domain false) (Rows.fnExactRowBytesSpec.post enc Try.prog Try.f6 false true false false) := by
  refine returnsInHanded_of_change (C := Try.checked) own started (by kernel_rfl) Try.func6
    (ChangeSpec.witness6 (enc := enc) (C := Try.checked) false ⟨#[], #[.slice none 0 0], []⟩ 8 (by kernel_rfl) (by kernel_rfl) (by kernel_rfl) (by kernel_rfl)) ?_
  intro W base args ds gs before hval0 hW _ _
  have hval : ∀ (j : Nat) t v, Try.f6.params[j]? = some t → args[j]? = some v → Value.okWide Try.prog W .any base t v := hval0
  have hW' := hW
  obtain ⟨p, q, hA0, hV, rfl, _, _⟩ := hW
  have hA : DataW.TrodAll enc Try.prog W 0 (fun _ => true) true Try.f6.params.toList args.toList ds p := hA0
  rw [Try.params6] at hA hval
  obtain ⟨v0, d0, rfl, rfl, h0⟩ := trodAll_one hA
  obtain ⟨rfl, rfl⟩ := trodVars_none hV
  have h0k := h0
  obtain ⟨a0, len0, cap0, rfl⟩ := okWide_slice Try.underlying38 (hval 0 38 v0 rfl rfl)
  obtain ⟨k, hk⟩ := h0
  obtain ⟨x, l, hc, hx, hf⟩ := open_valsW hk
  have hc' : x = .slice a0 len0 cap0 := by simpa [Value.cells] using hc.symm
  subst hc'
  clear hA0 hval0
  simp only [List.append_nil] at hW'
  have hlt : ∀ x ∈ p, x.block < W.heap.size := fun x hx => by simpa using hW'.lt x (by simp [hx])
  refine (walk _ l W hx hf).mono fun e W' ⟨he, bel⟩ => ?_
  subst he
  exact ⟨_, rfl, _, _, _, [], _, [], hW', trodAll_mk1 (shut_bool Try.underlying4 _), trodAll_mk1 (Below.trod laidOut (by kernel_rfl) (of_decide_eq_true (by kernel_rfl)) h0k bel hlt), rfl, bel.frame _, fun h => by cases h⟩

theorem over : Rows.FnExactRowBytesSaid :=
  OpenClaim.holds_of_wide 6 Try.f6 rfl rfl rfl rfl rfl rfl rfl ⟨rfl, rfl, rfl, rfl, rfl⟩ rfl rfl rfl rfl rfl (by kernel_rfl) Try.func6 (by kernel_rfl)
    (of_decide_eq_true (by kernel_rfl)) (by unfold Func.isWrapper; first | (rw [if_pos (by decide +kernel)]; kernel_rfl) | (rw [if_neg (by decide +kernel)]; exact ⟨rfl, rfl⟩))
    (fun os started H enc _ => lifted os started H enc)
end Go.Proofs.Ytihilcffmdjhhan.lawRowBytes
namespace Go.Proofs.Ytihilcffmdjhhan
theorem fnExactRowBytes_holds : Rows.FnExactRowBytesSaid := lawRowBytes.over
#print axioms fnExactRowBytes_holds
end Go.Proofs.Ytihilcffmdjhhan
