/- For all bytes the landed ReadVals answers as the given one does, leaves the bytes as they were, and its answer shares no memory: 'FnExactReadVals' returns true at all arguments, with no condition; its argument reads afterwards as it read before. -/
import Derived.Test.YtihilcffmdjhhaoRs5
import Derived.Deep.RegionWith
import Derived.Deep.DeepCutAuto
namespace Go.Proofs.Ytihilcffmdjhhao.lawReadVals
open Go.ChangeShapes Go.WideShapes Go.ChangeAt Go.RowKit

set_option maxRecDepth 100000 in
set_option maxHeartbeats 2000000 in
theorem walk (v : Value) (l : List UInt8) (w : World) (hx : BytesV w v l) :
    Calls Try.prog 5 #[v] w fun e w' => e = .returned (.bool true) ∧ Below w.heap.size w w' := by
  obtain ⟨a, p, rfl, hlp, hm, hx⟩ := hx.lit
  unfold maxLen at hm
  by_cases hbig : 1048576 < l.length
  · have hbi : (1048576 : Int) < l.length := by omega
    go_enter Try.func5, Try.ntmps5
    go_wp2
    go_ret
    exact ⟨rfl, (by repeat (first | with_reducible exact Below.refl _ _ | with_reducible assumption | with_reducible refine ch_alloc ?_ _ | with_reducible refine Below.drew ?_ | with_reducible refine below_draws _ ?_ | (with_reducible refine Below.setCell ?_ ?_ _; rotate_left; focus (first | with_reducible exact Nat.le_refl _ | (simp; done) | (simp; omega) | (simp at *; omega))) | with_reducible refine ch_trans ?_ (by with_reducible assumption)))⟩
  have hsm : l.length ≤ 1048576 := by omega
  have hml : l.length ≤ maxLen := by unfold maxLen; omega
  have hbi : (l.length : Int) ≤ 1048576 := by omega
  have HX : Hid (BytesV w (.slice a l.length p) l) := hx
  clear hx hbig
  obtain ⟨vs, q, hq⟩ : ∃ (vs : List Vc) (q : Bool), isRow l vs q := by
    by_cases h : ∃ us, okRow us ∧ rowL us = l
    · obtain ⟨us, h1, h2⟩ := h
      exact ⟨us, true, Or.inl ⟨rfl, h1, h2⟩⟩
    · exact ⟨[], false, Or.inr ⟨rfl, fun us h1 h2 => h ⟨us, h1, h2⟩, rfl⟩⟩
  have hLl : vs.length ≤ 8 := by
    rcases hq with ⟨_, h, _⟩ | ⟨_, _, rfl⟩
    · exact h.1
    · simp
  have HSS : Hid (∀ (u : World) (B : Nat), Fill u B 5 1 l.length (l.map byX) → Calls Try.prog 21 #[.slice (some ⟨B, 0, none⟩) l.length l.length] u fun e w' => ∃ v', e = .returned (.tuple #[v', .bool q]) ∧ Below u.heap.size u w' ∧ Got w' u.heap.size 104 3 v' (vs.map Vc.cells)) := fun u B h => (readVals_spec B 0 l.length l u h.lt (Nat.le_refl _) hml hsm h.row).mono fun e w' ⟨v', us, r, he, hi, hg, hb⟩ => by
    obtain ⟨rfl, rfl⟩ := hi.unique hq
    exact ⟨v', he, hb, hg⟩
  have HSI : Hid (∀ (u : World) (B : Nat), Fill u B 5 1 l.length (l.map byX) → Calls Try.prog 22 #[.slice (some ⟨B, 0, none⟩) l.length l.length] u fun e w' => ∃ v', e = .returned (.tuple #[v', .bool q]) ∧ Below u.heap.size u w' ∧ Got w' u.heap.size 104 3 v' (vs.map Vc.cells)) := fun u B h => (readVals_impl B 0 l.length l u h.lt (Nat.le_refl _) hml h.row).mono fun e w' ⟨v', us, r, he, hi, hg, hb⟩ => by
    obtain ⟨rfl, rfl⟩ := hi.unique hq
    exact ⟨v', he, hb, hg⟩
  have HTB : Hid (∀ u : World, BytesV u (.slice a l.length p) l → Calls Try.prog 18 #[.slice a l.length p] u fun e w' => ∃ B, e = .returned (.slice (some ⟨B, 0, none⟩) l.length l.length) ∧ u.heap.size ≤ B ∧ Below u.heap.size u w' ∧ Fill w' B 5 1 l.length (l.map byX)) := fun u hu => (toByteS_full _ l u hu hsm).mono fun e w' ⟨he, hb, hf⟩ => ⟨_, he, Nat.le_refl _, hb, hf⟩
  have hqq : (q != q) = false := by simp
  have hkl' : (vs.map Vc.cells).length ≤ 1048576 := by simp; omega
  clear hq
  go_enter Try.func5, Try.ntmps5
  go_wp2_with fail
  refine (HTB.out _ (HX.out.on (by repeat (first | with_reducible exact Below.refl _ _ | with_reducible assumption | with_reducible refine ch_alloc ?_ _ | with_reducible refine Below.drew ?_ | with_reducible refine below_draws _ ?_ | (with_reducible refine Below.setCell ?_ ?_ _; rotate_left; focus (first | with_reducible exact Nat.le_refl _ | (simp; done) | (simp; omega) | (simp at *; omega))) | with_reducible refine ch_trans ?_ (by with_reducible assumption))))).mono ?_
  rintro e w1 ⟨B0, rfl, _, b1, hf0⟩
  have HF0 : Hid (Fill w1 B0 5 1 l.length (l.map byX)) := hf0
  clear hf0
  go_wp2_with fail
  refine (HSS.out _ _ HF0.out).mono ?_
  rintro e w2 ⟨v0, rfl, b2, hg0⟩
  obtain ⟨a0, n0, e0, rfl, hg0⟩ := hg0.lit2
  have HG0 : Hid (Got w2 w1.heap.size 104 3 (.slice a0 n0 e0) (vs.map Vc.cells)) := hg0
  have hw2 : Below w.heap.size w w2 := (by repeat (first | with_reducible exact Below.refl _ _ | with_reducible assumption | with_reducible refine ch_alloc ?_ _ | with_reducible refine Below.drew ?_ | with_reducible refine below_draws _ ?_ | (with_reducible refine Below.setCell ?_ ?_ _; rotate_left; focus (first | with_reducible exact Nat.le_refl _ | (simp; done) | (simp; omega) | (simp at *; omega))) | with_reducible refine ch_trans ?_ (by with_reducible assumption)))
  clear hg0 HF0 b1 b2
  go_wp2_with fail
  refine (HTB.out _ (HX.out.on hw2)).mono ?_
  rintro e w3 ⟨B1, rfl, hB1, b3, hf1⟩
  have HF1 : Hid (Fill w3 B1 5 1 l.length (l.map byX)) := hf1
  have hlt1 : B1 < w3.heap.size := hf1.lt
  clear hf1
  go_wp2_with fail
  refine (HSI.out _ _ HF1.out).mono ?_
  rintro e w4 ⟨v1, rfl, b4, hg1⟩
  obtain ⟨a1, n1, e1, rfl, hg1⟩ := hg1.lit2
  have HG1 : Hid (Got w4 w3.heap.size 104 3 (.slice a1 n1 e1) (vs.map Vc.cells)) := hg1
  have HG04 : Hid (Got w4 w1.heap.size 104 3 (.slice a0 n0 e0) (vs.map Vc.cells)) := HG0.out.on (by repeat (first | with_reducible exact Below.refl _ _ | with_reducible assumption | with_reducible refine ch_alloc ?_ _ | with_reducible refine Below.drew ?_ | with_reducible refine below_draws _ ?_ | (with_reducible refine Below.setCell ?_ ?_ _; rotate_left; focus (first | with_reducible exact Nat.le_refl _ | (simp; done) | (simp; omega) | (simp at *; omega))) | with_reducible refine ch_trans ?_ (by with_reducible assumption)))
  clear hg1
  go_wp2_with fail
  refine (eqValS_same _ _ vs _ HG1.out.vals HG04.out.vals).mono ?_
  rintro e w5 ⟨rfl, b5⟩
  go_wp2_with fail
  refine (HTB.out _ (HX.out.on (w' := w5) (by repeat (first | with_reducible exact Below.refl _ _ | with_reducible assumption | with_reducible refine ch_alloc ?_ _ | with_reducible refine Below.drew ?_ | with_reducible refine below_draws _ ?_ | (with_reducible refine Below.setCell ?_ ?_ _; rotate_left; focus (first | with_reducible exact Nat.le_refl _ | (simp; done) | (simp; omega) | (simp at *; omega))) | with_reducible refine ch_trans ?_ (by with_reducible assumption))))).mono ?_
  rintro e w6 ⟨B2, rfl, _, b6, hf2⟩
  have HF2 : Hid (Fill w6 B2 5 1 l.length (l.map byX)) := hf2
  have HF16 : Hid (Fill w6 B1 5 1 l.length (l.map byX)) := HF1.out.on (by repeat (first | with_reducible exact Below.refl _ _ | with_reducible assumption | with_reducible refine ch_alloc ?_ _ | with_reducible refine Below.drew ?_ | with_reducible refine below_draws _ ?_ | (with_reducible refine Below.setCell ?_ ?_ _; rotate_left; focus (first | with_reducible exact Nat.le_refl _ | (simp; done) | (simp; omega) | (simp at *; omega))) | with_reducible refine ch_trans ?_ (by with_reducible assumption)))
  clear hf2
  go_wp2_with fail
  refine (eqByteS_same _ _ l _ (HF16.out.bytesV hml) (HF2.out.bytesV hml)).mono ?_
  rintro e w7 ⟨rfl, b7⟩
  obtain ⟨f1, hr1⟩ := (HF1.out.on (w' := w7) (by repeat (first | with_reducible exact Below.refl _ _ | with_reducible assumption | with_reducible refine ch_alloc ?_ _ | with_reducible refine Below.drew ?_ | with_reducible refine below_draws _ ?_ | (with_reducible refine Below.setCell ?_ ?_ _; rotate_left; focus (first | with_reducible exact Nat.le_refl _ | (simp; done) | (simp; omega) | (simp at *; omega))) | with_reducible refine ch_trans ?_ (by with_reducible assumption)))).rowIs
  have HR1 : Hid (w7.rowIs B1 5 (l.length * 1) f1) := hr1
  have HG17 : Hid (Got w7 w3.heap.size 104 3 (.slice a1 n1 e1) (vs.map Vc.cells)) := HG1.out.on (w' := w7) (by repeat (first | with_reducible exact Below.refl _ _ | with_reducible assumption | with_reducible refine ch_alloc ?_ _ | with_reducible refine Below.drew ?_ | with_reducible refine below_draws _ ?_ | (with_reducible refine Below.setCell ?_ ?_ _; rotate_left; focus (first | with_reducible exact Nat.le_refl _ | (simp; done) | (simp; omega) | (simp at *; omega))) | with_reducible refine ch_trans ?_ (by with_reducible assumption)))
  have HBd : Hid (Below w2.heap.size w2 w7) := by show Below _ _ _; exact (by repeat (first | with_reducible exact Below.refl _ _ | with_reducible assumption | with_reducible refine ch_alloc ?_ _ | with_reducible refine Below.drew ?_ | with_reducible refine below_draws _ ?_ | (with_reducible refine Below.setCell ?_ ?_ _; rotate_left; focus (first | with_reducible exact Nat.le_refl _ | (simp; done) | (simp; omega) | (simp at *; omega))) | with_reducible refine ch_trans ?_ (by with_reducible assumption)))
  have hs7 : w3.heap.size ≤ w7.heap.size := (show Below w3.heap.size w3 w7 from (by repeat (first | with_reducible exact Below.refl _ _ | with_reducible assumption | with_reducible refine ch_alloc ?_ _ | with_reducible refine Below.drew ?_ | with_reducible refine below_draws _ ?_ | (with_reducible refine Below.setCell ?_ ?_ _; rotate_left; focus (first | with_reducible exact Nat.le_refl _ | (simp; done) | (simp; omega) | (simp at *; omega))) | with_reducible refine ch_trans ?_ (by with_reducible assumption)))).size
  have hs3 : w2.heap.size ≤ w3.heap.size := b3.size
  clear hr1 b3 b4 b5 b6 b7
  go_wp2_with fail
  refine (markByteS_wide B1 l.length l.length _ _ f1 1 _ HR1.out (by omega) (by omega) (by omega)).mono ?_
  rintro e w8 ⟨rfl, hT1, _⟩
  have hK1b : 0 ≤ 1 + l.length := Nat.zero_le _
  generalize 1 + l.length = K1 at hK1b ⊢
  have hk0 : decide ((K1 : Int) < 0) = false := by simp
  have HT1 : Hid (Turns (· = B1) w7 w8) := hT1
  have HBe : Hid (Below w2.heap.size w2 w8) := HBd.out.trans (HT1.out.toBelow (fun c h => by have h : c = B1 := h; omega) (by omega))
  have HG08 : Hid (Got w8 w1.heap.size 104 3 (.slice a0 n0 e0) (vs.map Vc.cells)) := HG0.out.on HBe.out
  have HG18 : Hid (Got w8 w3.heap.size 104 3 (.slice a1 n1 e1) (vs.map Vc.cells)) := HG17.out.turns HT1.out fun c h => by have h : c = B1 := h; omega
  have hs8 : w3.heap.size ≤ w8.heap.size := Nat.le_trans hs7 HT1.out.size
  clear hT1
  go_wp2_with (go_at_call 23; refine (eqValS_same _ _ vs _ HG18.out.vals HG08.out.vals).mono ?_; rintro e w9 ⟨rfl, b9⟩)
  have HG19 : Hid (Got w9 w3.heap.size 104 3 (.slice a1 n1 e1) (vs.map Vc.cells)) := HG18.out.on b9
  have HBf : Hid (Below w2.heap.size w2 w9) := ch_trans HBe.out b9
  have hs9 : w3.heap.size ≤ w9.heap.size := Nat.le_trans hs8 b9.size
  clear b9
  refine (markValS_got HG19.out hkl' 1 (by omega)).mono ?_
  rintro e w10 ⟨rfl, hT3, hheld⟩
  have HH : Hid (Held w10 (.slice a1 n1 e1) 1 (vs.map Vc.cells).length) := hheld
  have HBg : Hid (Below w2.heap.size w2 w10) := HBf.out.trans (hT3.toBelow (fun c h => by have h : w3.heap.size ≤ c := h; omega) (by omega))
  have HHS : Hid (∀ u : World, Held u (.slice a1 n1 e1) 1 (vs.map Vc.cells).length → Calls Try.prog 25 #[.slice a1 n1 e1, .int .i64 1] u fun e w' => e = .returned (.int .i64 ((1 + (vs.map Vc.cells).length * 3 : Nat) : Int)) ∧ Below u.heap.size u w') := fun u hu => heldValS_held (k := 1) hu hkl' (by omega)
  clear hT3 hheld
  generalize 1 + (vs.map Vc.cells).length * 3 = M at HHS ⊢
  have hm0 : decide ((M : Int) < 0) = false := by simp
  have hmm : ((M : Int) != M) = false := by simp
  go_wp2_with fail
  refine (HHS.out _ HH.out).mono ?_
  rintro e w11 ⟨rfl, b11⟩
  have HH11 : Hid (Held w11 (.slice a1 n1 e1) 1 (vs.map Vc.cells).length) := HH.out.on b11
  have HB11 : Hid (Below w2.heap.size w2 w11) := ch_trans HBg.out b11
  have HG011 : Hid (Got w11 w1.heap.size 104 3 (.slice a0 n0 e0) (vs.map Vc.cells)) := HG0.out.on HB11.out
  have hw11 : Below w.heap.size w w11 := ch_trans hw2 HB11.out
  clear b11
  go_wp2_with fail
  refine (HTB.out _ (HX.out.on hw11)).mono ?_
  rintro e w12 ⟨B3, rfl, _, b12, hf3⟩
  have HF3 : Hid (Fill w12 B3 5 1 l.length (l.map byX)) := hf3
  clear hf3
  go_wp2_with fail
  refine (HSI.out _ _ HF3.out).mono ?_
  rintro e w13 ⟨v2, rfl, b13, hg2⟩
  obtain ⟨a2, n2, e2, rfl, hg2⟩ := hg2.lit2
  have HG2 : Hid (Got w13 w12.heap.size 104 3 (.slice a2 n2 e2) (vs.map Vc.cells)) := hg2
  have HG013 : Hid (Got w13 w1.heap.size 104 3 (.slice a0 n0 e0) (vs.map Vc.cells)) := HG011.out.on (by repeat (first | with_reducible exact Below.refl _ _ | with_reducible assumption | with_reducible refine ch_alloc ?_ _ | with_reducible refine Below.drew ?_ | with_reducible refine below_draws _ ?_ | (with_reducible refine Below.setCell ?_ ?_ _; rotate_left; focus (first | with_reducible exact Nat.le_refl _ | (simp; done) | (simp; omega) | (simp at *; omega))) | with_reducible refine ch_trans ?_ (by with_reducible assumption)))
  have HH13 : Hid (Held w13 (.slice a1 n1 e1) 1 (vs.map Vc.cells).length) := HH11.out.on (by repeat (first | with_reducible exact Below.refl _ _ | with_reducible assumption | with_reducible refine ch_alloc ?_ _ | with_reducible refine Below.drew ?_ | with_reducible refine below_draws _ ?_ | (with_reducible refine Below.setCell ?_ ?_ _; rotate_left; focus (first | with_reducible exact Nat.le_refl _ | (simp; done) | (simp; omega) | (simp at *; omega))) | with_reducible refine ch_trans ?_ (by with_reducible assumption)))
  clear hg2
  go_wp2_with fail
  refine (eqValS_same _ _ vs _ HG2.out.vals HG013.out.vals).mono ?_
  rintro e w14 ⟨rfl, b14⟩
  go_wp2_with fail
  refine (HHS.out _ (HH13.out.on b14)).mono ?_
  rintro e w15 ⟨rfl, b15⟩
  go_wp2
  go_ret
  exact ⟨rfl, (by repeat (first | with_reducible exact Below.refl _ _ | with_reducible assumption | with_reducible refine ch_alloc ?_ _ | with_reducible refine Below.drew ?_ | with_reducible refine below_draws _ ?_ | (with_reducible refine Below.setCell ?_ ?_ _; rotate_left; focus (first | with_reducible exact Nat.le_refl _ | (simp; done) | (simp; omega) | (simp at *; omega))) | with_reducible refine ch_trans ?_ (by with_reducible assumption)))⟩

theorem own : ownKnob Try.prog.godebug = none := by kernel_rfl
theorem laidOut : laidOutB Try.prog = true := by kernel_rfl

set_option maxRecDepth 100000 in
theorem lifted (os : Os) (started : os.Started) (H : Type) (enc : TypeId × Value → H) :
    ReturnsInHanded {} Try.checked os 5 .any (Rows.fnExactReadValsSpec.pre6 enc Try.prog Try.f5 Rows.fnExactReadValsRow.domain false) (Rows.fnExactReadValsSpec.post enc Try.prog Try.f5 false true false false) := by
  refine returnsInHanded_of_change (C := Try.checked) own started (by kernel_rfl) Try.func5
    (ChangeSpec.witness6 (enc := enc) (C := Try.checked) false ⟨#[], #[.slice none 0 0], []⟩ 8 (by kernel_rfl) (by kernel_rfl) (by kernel_rfl) (by kernel_rfl)) ?_
  intro W base args ds gs before hval0 hW _ _
  have hval : ∀ (j : Nat) t v, Try.f5.params[j]? = some t → args[j]? = some v → Value.okWide Try.prog W .any base t v := hval0
  have hW' := hW
  obtain ⟨p, q, hA0, hV, rfl, _, _⟩ := hW
  have hA : DataW.TrodAll enc Try.prog W 0 (fun _ => true) true Try.f5.params.toList args.toList ds p := hA0
  rw [Try.params5] at hA hval
  obtain ⟨v0, d0, rfl, rfl, h0⟩ := trodAll_one hA
  obtain ⟨rfl, rfl⟩ := trodVars_none hV
  have h0k := h0
  obtain ⟨a0, len0, cap0, rfl⟩ := okWide_slice Try.underlying32 (hval 0 32 v0 rfl rfl)
  obtain ⟨k, hk⟩ := h0
  obtain ⟨x, l, hc, hx⟩ := open_bytes hk
  have hc' : x = .slice a0 len0 cap0 := by simpa [Value.cells] using hc.symm
  subst hc'
  clear hA0 hval0
  simp only [List.append_nil] at hW'
  have hlt : ∀ x ∈ p, x.block < W.heap.size := fun x hx => by simpa using hW'.lt x (by simp [hx])
  refine (walk _ l W hx).mono fun e W' ⟨he, bel⟩ => ?_
  subst he
  exact ⟨_, rfl, _, _, _, [], _, [], hW', trodAll_mk1 (shut_bool Try.underlying4 _), trodAll_mk1 (Below.trod laidOut (by kernel_rfl) (of_decide_eq_true (by kernel_rfl)) h0k bel hlt), rfl, bel.frame _, fun h => by cases h⟩

theorem over : Rows.FnExactReadValsSaid :=
  OpenClaim.holds_of_wide 5 Try.f5 rfl rfl rfl rfl rfl rfl rfl ⟨rfl, rfl, rfl, rfl, rfl⟩ rfl rfl rfl rfl rfl (by kernel_rfl) Try.func5 (by kernel_rfl)
    (of_decide_eq_true (by kernel_rfl)) (by unfold Func.isWrapper; first | (rw [if_pos (by decide +kernel)]; kernel_rfl) | (rw [if_neg (by decide +kernel)]; exact ⟨rfl, rfl⟩))
    (fun os started H enc _ => lifted os started H enc)
end Go.Proofs.Ytihilcffmdjhhao.lawReadVals
namespace Go.Proofs.Ytihilcffmdjhhao
theorem fnExactReadVals_holds : Rows.FnExactReadValsSaid := lawReadVals.over
#print axioms fnExactReadVals_holds
end Go.Proofs.Ytihilcffmdjhhao
