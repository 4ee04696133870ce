/- For every text the landed WordBytes answers as the given one does, and its answer shares no memory: 'FnExactWordBytes' returns true at all arguments, with no condition. -/
import Derived.Test.YtihilcffmdjhhanWs
import Derived.ShutString
import Derived.Deep.RegionWith
import Derived.Deep.DeepCutAuto
namespace Go.Proofs.Ytihilcffmdjhhan.lawWordBytes
open Go.ChangeShapes Go.WideShapes Go.ChangeAt Go.RowKit
open Go.ChangeMaps (open_string shut_string)

set_option maxRecDepth 100000 in
set_option maxHeartbeats 2000000 in
theorem walk (s : ByteArray) (w : World) (hs : s.size ≤ maxLen) :
    Calls Try.prog 7 #[.string s] w fun e w' => e = .returned (.bool true) ∧ Below w.heap.size w w' := by
  by_cases hbig : 1048576 < s.size
  · have hbi : (1048576 : Int) < s.size := by omega
    unfold maxLen at hs
    go_enter Try.func7, Try.ntmps7
    go_wp2
    go_ret
    exact ⟨rfl, (by repeat (first | with_reducible exact Below.refl _ _ | with_reducible assumption | with_reducible refine ch_alloc ?_ _ | with_reducible refine Below.drew ?_ | with_reducible refine below_draws _ ?_ | (with_reducible refine Below.setCell ?_ ?_ _; rotate_left; focus (first | with_reducible exact Nat.le_refl _ | (simp; done) | (simp; omega) | (simp at *; omega))) | with_reducible refine ch_trans ?_ (by with_reducible assumption)))⟩
  have hbi : (s.size : Int) ≤ 1048576 := by omega
  obtain ⟨q, L, hq⟩ : ∃ (q : Bool) (L : List UInt8), (q = true ∧ okWord s ∧ L = textL s) ∨ (q = false ∧ ¬ okWord s ∧ L = []) := by
    by_cases h : okWord s
    · exact ⟨true, _, Or.inl ⟨rfl, h, rfl⟩⟩
    · exact ⟨false, _, Or.inr ⟨rfl, h, rfl⟩⟩
  have hLl : L.length ≤ 1000 := by
    rcases hq with ⟨_, h, rfl⟩ | ⟨_, _, rfl⟩
    · have := okWord_size h
      rw [textL_length]; omega
    · simp
  have HSS : Hid (∀ (u : World), Calls Try.prog 26 #[.string s] u fun e w' => ∃ v', e = .returned (.tuple #[v', .bool q]) ∧ Below u.heap.size u w' ∧ Got w' u.heap.size 5 1 v' (L.map byX)) := fun u => wordBytes_spec s u hs q L hq
  have HSI : Hid (∀ (u : World), Calls Try.prog 27 #[.string s] u fun e w' => ∃ v', e = .returned (.tuple #[v', .bool q]) ∧ Below u.heap.size u w' ∧ Got w' u.heap.size 5 1 v' (L.map byX)) := fun u => wordBytes_impl s u hs q L hq
  have hqq : (q != q) = false := by simp
  have hkl' : (L.map byX).length ≤ 2000000 := by simp; omega
  clear hq hbig
  go_enter Try.func7, Try.ntmps7
  go_wp2_with fail
  refine (HSS.out _).mono ?_
  rintro e w2 ⟨v0, rfl, b2, hg0⟩
  obtain ⟨a0, n0, e0, rfl, hg0⟩ := hg0.lit2
  have HG0 : Hid (Got w2 w.heap.size 5 1 (.slice a0 n0 e0) (L.map byX)) := hg0
  clear hg0
  go_wp2_with fail
  refine (HSI.out _).mono ?_
  rintro e w4 ⟨v1, rfl, b4, hg1⟩
  obtain ⟨a1, n1, e1, rfl, hg1⟩ := hg1.lit2
  have HG1 : Hid (Got w4 w2.heap.size 5 1 (.slice a1 n1 e1) (L.map byX)) := hg1
  have HG04 : Hid (Got w4 w.heap.size 5 1 (.slice a0 n0 e0) (L.map byX)) := HG0.out.on (by repeat (first | with_reducible exact Below.refl _ _ | with_reducible assumption | with_reducible refine ch_alloc ?_ _ | with_reducible refine Below.drew ?_ | with_reducible refine below_draws _ ?_ | (with_reducible refine Below.setCell ?_ ?_ _; rotate_left; focus (first | with_reducible exact Nat.le_refl _ | (simp; done) | (simp; omega) | (simp at *; omega))) | with_reducible refine ch_trans ?_ (by with_reducible assumption)))
  clear hg1
  go_wp2_with fail
  refine (eqByteS_same _ _ L _ HG1.out.bytes HG04.out.bytes).mono ?_
  rintro e w5 ⟨rfl, b5⟩
  have HG19 : Hid (Got w5 w2.heap.size 5 1 (.slice a1 n1 e1) (L.map byX)) := HG1.out.on b5
  have HBf : Hid (Below w2.heap.size w2 w5) := by show Below _ _ _; exact (by repeat (first | with_reducible exact Below.refl _ _ | with_reducible assumption | with_reducible refine ch_alloc ?_ _ | with_reducible refine Below.drew ?_ | with_reducible refine below_draws _ ?_ | (with_reducible refine Below.setCell ?_ ?_ _; rotate_left; focus (first | with_reducible exact Nat.le_refl _ | (simp; done) | (simp; omega) | (simp at *; omega))) | with_reducible refine ch_trans ?_ (by with_reducible assumption)))
  have hs9 : w2.heap.size ≤ w5.heap.size := HBf.out.size
  have hw2 : Below w.heap.size w w2 := (by repeat (first | with_reducible exact Below.refl _ _ | with_reducible assumption | with_reducible refine ch_alloc ?_ _ | with_reducible refine Below.drew ?_ | with_reducible refine below_draws _ ?_ | (with_reducible refine Below.setCell ?_ ?_ _; rotate_left; focus (first | with_reducible exact Nat.le_refl _ | (simp; done) | (simp; omega) | (simp at *; omega))) | with_reducible refine ch_trans ?_ (by with_reducible assumption)))
  clear b2 b4 b5
  go_wp2_with fail
  refine (markByteS_got HG19.out hkl' 1 (by omega)).mono ?_
  rintro e w10 ⟨rfl, hT3, hheld⟩
  have HH : Hid (HeldL w10 (.slice a1 n1 e1) 1 (markY 1) (L.map byX).length) := hheld
  have HBg : Hid (Below w2.heap.size w2 w10) := HBf.out.trans (hT3.toBelow (fun c h => by have := HG19.out.own h; omega) (by omega))
  have HHS : Hid (∀ u : World, HeldL u (.slice a1 n1 e1) 1 (markY 1) (L.map byX).length → Calls Try.prog 13 #[.slice a1 n1 e1, .int .i64 1] u fun e w' => e = .returned (.int .i64 ((1 + (L.map byX).length : Nat) : Int)) ∧ Below u.heap.size u w') := fun u hu => heldByteS_held (k := 1) hu hkl' (by omega)
  clear hT3 hheld
  generalize 1 + (L.map byX).length = M at HHS ⊢
  have hm0 : decide ((M : Int) < 0) = false := by simp
  have hmm : ((M : Int) != M) = false := by simp
  go_wp2_with fail
  refine (HHS.out _ HH.out).mono ?_
  rintro e w11 ⟨rfl, b11⟩
  have HH11 : Hid (HeldL w11 (.slice a1 n1 e1) 1 (markY 1) (L.map byX).length) := HH.out.on b11
  have HB11 : Hid (Below w2.heap.size w2 w11) := ch_trans HBg.out b11
  have HG011 : Hid (Got w11 w.heap.size 5 1 (.slice a0 n0 e0) (L.map byX)) := HG0.out.on HB11.out
  have hw11 : Below w.heap.size w w11 := ch_trans hw2 HB11.out
  clear b11
  go_wp2_with fail
  refine (HSI.out _).mono ?_
  rintro e w13 ⟨v2, rfl, b13, hg2⟩
  obtain ⟨a2, n2, e2, rfl, hg2⟩ := hg2.lit2
  have HG2 : Hid (Got w13 w11.heap.size 5 1 (.slice a2 n2 e2) (L.map byX)) := hg2
  have HG013 : Hid (Got w13 w.heap.size 5 1 (.slice a0 n0 e0) (L.map byX)) := HG011.out.on (by repeat (first | with_reducible exact Below.refl _ _ | with_reducible assumption | with_reducible refine ch_alloc ?_ _ | with_reducible refine Below.drew ?_ | with_reducible refine below_draws _ ?_ | (with_reducible refine Below.setCell ?_ ?_ _; rotate_left; focus (first | with_reducible exact Nat.le_refl _ | (simp; done) | (simp; omega) | (simp at *; omega))) | with_reducible refine ch_trans ?_ (by with_reducible assumption)))
  have HH13 : Hid (HeldL w13 (.slice a1 n1 e1) 1 (markY 1) (L.map byX).length) := HH11.out.on (by repeat (first | with_reducible exact Below.refl _ _ | with_reducible assumption | with_reducible refine ch_alloc ?_ _ | with_reducible refine Below.drew ?_ | with_reducible refine below_draws _ ?_ | (with_reducible refine Below.setCell ?_ ?_ _; rotate_left; focus (first | with_reducible exact Nat.le_refl _ | (simp; done) | (simp; omega) | (simp at *; omega))) | with_reducible refine ch_trans ?_ (by with_reducible assumption)))
  clear hg2
  go_wp2_with fail
  refine (eqByteS_same _ _ L _ HG2.out.bytes HG013.out.bytes).mono ?_
  rintro e w14 ⟨rfl, b14⟩
  go_wp2_with fail
  refine (HHS.out _ (HH13.out.on b14)).mono ?_
  rintro e w15 ⟨rfl, b15⟩
  go_wp2
  go_ret
  exact ⟨rfl, (by repeat (first | with_reducible exact Below.refl _ _ | with_reducible assumption | with_reducible refine ch_alloc ?_ _ | with_reducible refine Below.drew ?_ | with_reducible refine below_draws _ ?_ | (with_reducible refine Below.setCell ?_ ?_ _; rotate_left; focus (first | with_reducible exact Nat.le_refl _ | (simp; done) | (simp; omega) | (simp at *; omega))) | with_reducible refine ch_trans ?_ (by with_reducible assumption)))⟩

theorem own : ownKnob Try.prog.godebug = none := by kernel_rfl
theorem laidOut : laidOutB Try.prog = true := by kernel_rfl

set_option maxRecDepth 100000 in
theorem lifted (os : Os) (started : os.Started) (H : Type) (enc : TypeId × Value → H) :
    ReturnsInHanded {} Try.checked os 7 .any (Rows.fnExactWordBytesSpec.pre6 enc Try.prog Try.f7 Rows.fnExactWordBytesRow.domain false) (Rows.fnExactWordBytesSpec.post enc Try.prog Try.f7 false true false false) := by
  refine returnsInHanded_of_change (C := Try.checked) own started (by kernel_rfl) Try.func7
    (ChangeSpec.witness6 (enc := enc) (C := Try.checked) false ⟨#[], #[.string ByteArray.empty], []⟩ 8 (by kernel_rfl) (by kernel_rfl) (by kernel_rfl) (by kernel_rfl)) ?_
  intro W base args ds gs before hval0 hW _ _
  have hval : ∀ (j : Nat) t v, Try.f7.params[j]? = some t → args[j]? = some v → Value.okWide Try.prog W .any base t v := hval0
  have hW' := hW
  obtain ⟨p, q, hA0, hV, rfl, _, _⟩ := hW
  have hA : DataW.TrodAll enc Try.prog W 0 (fun _ => true) true Try.f7.params.toList args.toList ds p := hA0
  rw [Try.params7] at hA hval
  obtain ⟨v0, d0, rfl, rfl, h0⟩ := trodAll_one hA
  obtain ⟨rfl, rfl⟩ := trodVars_none hV
  obtain ⟨s, rfl, rfl, rfl, hs⟩ := open_string Try.underlying9 (hval 0 9 v0 rfl rfl) h0
  clear hA0 hval0
  simp only [List.append_nil] at hW'
  refine (walk s W hs).mono fun e W' ⟨he, bel⟩ => ?_
  subst he
  exact ⟨_, rfl, _, _, _, [], [], [], hW', trodAll_mk1 (shut_bool Try.underlying4 _), trodAll_mk1 (shut_string Try.underlying9 hs), rfl, bel.frame _, fun h => by cases h⟩

theorem over : Rows.FnExactWordBytesSaid :=
  OpenClaim.holds_of_wide 7 Try.f7 rfl rfl rfl rfl rfl rfl rfl ⟨rfl, rfl, rfl, rfl, rfl⟩ rfl rfl rfl rfl rfl (by kernel_rfl) Try.func7 (by kernel_rfl)
    (of_decide_eq_true (by kernel_rfl)) (by unfold Func.isWrapper; first | (rw [if_pos (by decide +kernel)]; kernel_rfl) | (rw [if_neg (by decide +kernel)]; exact ⟨rfl, rfl⟩))
    (fun os started H enc _ => lifted os started H enc)
end Go.Proofs.Ytihilcffmdjhhan.lawWordBytes
namespace Go.Proofs.Ytihilcffmdjhhan
theorem fnExactWordBytes_holds : Rows.FnExactWordBytesSaid := lawWordBytes.over
#print axioms fnExactWordBytes_holds
end Go.Proofs.Ytihilcffmdjhhan
