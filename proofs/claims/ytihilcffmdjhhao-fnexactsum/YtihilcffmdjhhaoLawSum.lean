/- For all bytes the landed Sum answers as the given one does and leaves the bytes as they were: 'FnExactSum' returns true at all arguments, with no condition; its arguments read afterwards as they read before. -/
import Derived.Test.YtihilcffmdjhhaoGn
import Derived.Deep.RegionWith
import Derived.Deep.DeepCutAuto
namespace Go.Proofs.Ytihilcffmdjhhao.lawSum
open Go.ChangeShapes Go.WideShapes Go.ChangeAt Go.RowKit

set_option maxRecDepth 100000 in
set_option maxHeartbeats 2000000 in
theorem walk (v : Value) (l : List UInt8) (w : World) (hx : BytesV w v l) :
    Calls Try.prog 6 #[v] w fun e w' => e = .returned (.bool true) ∧ Below w.heap.size w w' := by
  obtain ⟨a, p, rfl, hlp, hm, hx⟩ := hx.lit
  unfold maxLen at hm
  by_cases hbig : 1048576 < l.length
  · have hbi : (1048576 : Int) < l.length := by omega
    go_enter Try.func6, Try.ntmps6
    go_wp2
    go_ret
    exact ⟨rfl, (by repeat (first | with_reducible exact Below.refl _ _ | with_reducible assumption | with_reducible refine ch_alloc ?_ _ | with_reducible refine Below.drew ?_ | with_reducible refine below_draws _ ?_ | (with_reducible refine Below.setCell ?_ ?_ _; rotate_left; focus (first | with_reducible exact Nat.le_refl _ | (simp; done) | (simp; omega) | (simp at *; omega))) | with_reducible refine ch_trans ?_ (by with_reducible assumption)))⟩
  have hsm : l.length ≤ 1048576 := by omega
  have hml : l.length ≤ maxLen := by unfold maxLen; omega
  have hbi : (l.length : Int) ≤ 1048576 := by omega
  have HX : Hid (BytesV w (.slice a l.length p) l) := hx
  clear hx hbig
  have HTB : Hid (∀ u : World, BytesV u (.slice a l.length p) l → Calls Try.prog 18 #[.slice a l.length p] u fun e w' => ∃ B, e = .returned (.slice (some ⟨B, 0, none⟩) l.length l.length) ∧ u.heap.size ≤ B ∧ Below u.heap.size u w' ∧ Fill w' B 5 1 l.length (l.map byX)) := fun u hu => (toByteS_full _ l u hu hsm).mono fun e w' ⟨he, hb, hf⟩ => ⟨_, he, Nat.le_refl _, hb, hf⟩
  have HSS : Hid (∀ (u : World) (B : Nat), Fill u B 5 1 l.length (l.map byX) → Calls Try.prog 26 #[.slice (some ⟨B, 0, none⟩) l.length l.length] u fun e w' => e = .returned (.int .i64 (sumL l : Int)) ∧ Below u.heap.size u w') := fun u B h => sum_spec _ l u (h.bytesV hml)
  have HSI : Hid (∀ (u : World) (B : Nat), Fill u B 5 1 l.length (l.map byX) → Calls Try.prog 27 #[.slice (some ⟨B, 0, none⟩) l.length l.length] u fun e w' => e = .returned (.int .i64 (sumL l : Int)) ∧ Below u.heap.size u w') := fun u B h => sum_impl _ l u (h.bytesV hml)
  generalize sumL l = S at HSS HSI
  have hss : ((S : Int) != S) = false := by simp
  go_enter Try.func6, Try.ntmps6
  go_wp2_with fail
  refine (HTB.out _ (HX.out.on (by repeat (first | with_reducible exact Below.refl _ _ | with_reducible assumption | with_reducible refine ch_alloc ?_ _ | with_reducible refine Below.drew ?_ | with_reducible refine below_draws _ ?_ | (with_reducible refine Below.setCell ?_ ?_ _; rotate_left; focus (first | with_reducible exact Nat.le_refl _ | (simp; done) | (simp; omega) | (simp at *; omega))) | with_reducible refine ch_trans ?_ (by with_reducible assumption))))).mono ?_
  rintro e w1 ⟨B0, rfl, _, b1, hf0⟩
  have HF0 : Hid (Fill w1 B0 5 1 l.length (l.map byX)) := hf0
  clear hf0
  go_wp2_with fail
  refine (HSS.out _ _ HF0.out).mono ?_
  rintro e w2 ⟨rfl, b2⟩
  go_wp2_with fail
  refine (HTB.out _ (HX.out.on (w' := w2) (by repeat (first | with_reducible exact Below.refl _ _ | with_reducible assumption | with_reducible refine ch_alloc ?_ _ | with_reducible refine Below.drew ?_ | with_reducible refine below_draws _ ?_ | (with_reducible refine Below.setCell ?_ ?_ _; rotate_left; focus (first | with_reducible exact Nat.le_refl _ | (simp; done) | (simp; omega) | (simp at *; omega))) | with_reducible refine ch_trans ?_ (by with_reducible assumption))))).mono ?_
  rintro e w3 ⟨B1, rfl, hB1, b3, hf1⟩
  have HF1 : Hid (Fill w3 B1 5 1 l.length (l.map byX)) := hf1
  clear hf1
  go_wp2_with fail
  refine (HSI.out _ _ HF1.out).mono ?_
  rintro e w4 ⟨rfl, b4⟩
  go_wp2_with fail
  refine (HTB.out _ (HX.out.on (w' := w4) (by repeat (first | with_reducible exact Below.refl _ _ | with_reducible assumption | with_reducible refine ch_alloc ?_ _ | with_reducible refine Below.drew ?_ | with_reducible refine below_draws _ ?_ | (with_reducible refine Below.setCell ?_ ?_ _; rotate_left; focus (first | with_reducible exact Nat.le_refl _ | (simp; done) | (simp; omega) | (simp at *; omega))) | with_reducible refine ch_trans ?_ (by with_reducible assumption))))).mono ?_
  rintro e w5 ⟨B2, rfl, _, b5, hf2⟩
  have HF2 : Hid (Fill w5 B2 5 1 l.length (l.map byX)) := hf2
  have HF15 : Hid (Fill w5 B1 5 1 l.length (l.map byX)) := HF1.out.on (by repeat (first | with_reducible exact Below.refl _ _ | with_reducible assumption | with_reducible refine ch_alloc ?_ _ | with_reducible refine Below.drew ?_ | with_reducible refine below_draws _ ?_ | (with_reducible refine Below.setCell ?_ ?_ _; rotate_left; focus (first | with_reducible exact Nat.le_refl _ | (simp; done) | (simp; omega) | (simp at *; omega))) | with_reducible refine ch_trans ?_ (by with_reducible assumption)))
  clear hf2
  go_wp2_with fail
  refine (eqByteS_same _ _ l _ (HF15.out.bytesV hml) (HF2.out.bytesV hml)).mono ?_
  rintro e w6 ⟨rfl, b6⟩
  go_wp2
  go_ret
  exact ⟨rfl, (by repeat (first | with_reducible exact Below.refl _ _ | with_reducible assumption | with_reducible refine ch_alloc ?_ _ | with_reducible refine Below.drew ?_ | with_reducible refine below_draws _ ?_ | (with_reducible refine Below.setCell ?_ ?_ _; rotate_left; focus (first | with_reducible exact Nat.le_refl _ | (simp; done) | (simp; omega) | (simp at *; omega))) | with_reducible refine ch_trans ?_ (by with_reducible assumption)))⟩

theorem own : ownKnob Try.prog.godebug = none := by kernel_rfl
theorem laidOut : laidOutB Try.prog = true := by kernel_rfl

set_option maxRecDepth 100000 in
theorem lifted (os : Os) (started : os.Started) (H : Type) (enc : TypeId × Value → H) :
    ReturnsInHanded {} Try.checked os 6 .any (Rows.fnExactSumSpec.pre6 enc Try.prog Try.f6 Rows.fnExactSumRow.domain false) (Rows.fnExactSumSpec.post enc Try.prog Try.f6 false true false false) := by
  refine returnsInHanded_of_change (C := Try.checked) own started (by kernel_rfl) Try.func6
    (ChangeSpec.witness6 (enc := enc) (C := Try.checked) false ⟨#[], #[.slice none 0 0], []⟩ 8 (by kernel_rfl) (by kernel_rfl) (by kernel_rfl) (by kernel_rfl)) ?_
  intro W base args ds gs before hval0 hW _ _
  have hval : ∀ (j : Nat) t v, Try.f6.params[j]? = some t → args[j]? = some v → Value.okWide Try.prog W .any base t v := hval0
  have hW' := hW
  obtain ⟨p, q, hA0, hV, rfl, _, _⟩ := hW
  have hA : DataW.TrodAll enc Try.prog W 0 (fun _ => true) true Try.f6.params.toList args.toList ds p := hA0
  rw [Try.params6] at hA hval
  obtain ⟨v0, d0, rfl, rfl, h0⟩ := trodAll_one hA
  obtain ⟨rfl, rfl⟩ := trodVars_none hV
  have h0k := h0
  obtain ⟨a0, len0, cap0, rfl⟩ := okWide_slice Try.underlying32 (hval 0 32 v0 rfl rfl)
  obtain ⟨k, hk⟩ := h0
  obtain ⟨x, l, hc, hx⟩ := open_bytes hk
  have hc' : x = .slice a0 len0 cap0 := by simpa [Value.cells] using hc.symm
  subst hc'
  clear hA0 hval0
  simp only [List.append_nil] at hW'
  have hlt : ∀ x ∈ p, x.block < W.heap.size := fun x hx => by simpa using hW'.lt x (by simp [hx])
  refine (walk _ l W hx).mono fun e W' ⟨he, bel⟩ => ?_
  subst he
  exact ⟨_, rfl, _, _, _, [], _, [], hW', trodAll_mk1 (shut_bool Try.underlying4 _), trodAll_mk1 (Below.trod laidOut (by kernel_rfl) (of_decide_eq_true (by kernel_rfl)) h0k bel hlt), rfl, bel.frame _, fun h => by cases h⟩

theorem over : Rows.FnExactSumSaid :=
  OpenClaim.holds_of_wide 6 Try.f6 rfl rfl rfl rfl rfl rfl rfl ⟨rfl, rfl, rfl, rfl, rfl⟩ rfl rfl rfl rfl rfl (by kernel_rfl) Try.func6 (by kernel_rfl)
    (of_decide_eq_true (by kernel_rfl)) (by unfold Func.isWrapper; first | (rw [if_pos (by decide +kernel)]; kernel_rfl) | (rw [if_neg (by decide +kernel)]; exact ⟨rfl, rfl⟩))
    (fun os started H enc _ => lifted os started H enc)
end Go.Proofs.Ytihilcffmdjhhao.lawSum
namespace Go.Proofs.Ytihilcffmdjhhao
theorem fnExactSum_holds : Rows.FnExactSumSaid := lawSum.over
#print axioms fnExactSum_holds
end Go.Proofs.Ytihilcffmdjhhao
