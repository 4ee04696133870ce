/- For every table and every text the landed ColAt answers as the given one does, and leaves the table as it was: 'FnExactColAt' returns true at every argument, with no condition; its arguments read afterwards as they read before. -/
import Derived.Test.YtcnoiohgaheegahPl
import Derived.Test.YtcnoiohgaheegahOpenT
import Derived.ShutString
namespace Go.Proofs.Ytcnoiohgaheegah.lawColAt
open Go.ChangeShapes Go.WideShapes Go.ChangeAt Go.RowKit
open Go.ChangeMaps (open_string shut_string)

set_option maxRecDepth 100000 in
set_option maxHeartbeats 1000000 in
theorem walk (x : Array Value) (t : Tc) (s : ByteArray) (w : World) (hx : TabV w x t) (hf : t.fit) (hs : s.size ≤ maxLen) :
    Calls Try.prog 7 #[.agg x, .string s] w fun e w' => e = .returned (.bool true) ∧ Below w.heap.size w w' := by
  unfold maxLen at hs
  by_cases h : (1048576 : Int) < s.size
  · obtain ⟨cv, kv, rfl, hx⟩ := hx
    clear hx hf
    go_enter Try.func7, Try.ntmps7
    go_wp2
    go_ret
    exact ⟨rfl, (by repeat (first | with_reducible exact Below.refl _ _ | with_reducible assumption | with_reducible refine ch_alloc ?_ _ | with_reducible refine Below.drew ?_ | with_reducible refine below_draws _ ?_ | (with_reducible refine Below.setCell ?_ ?_ _; rotate_left; focus (first | with_reducible exact Nat.le_refl _ | (simp; done) | (simp; omega) | (simp at *; omega))) | with_reducible refine ch_trans ?_ (by with_reducible assumption)))⟩
  obtain ⟨cv, kv, rfl, hc, hk⟩ := hx
  have HX : Hid (TabV w #[.string t.name, cv, kv] t) := ⟨cv, kv, rfl, hc, hk⟩
  have HF : Hid t.fit := hf
  have HL := Loc.new w #[.string t.name, cv, kv] 36
  clear hc hk hf
  go_enter Try.func7, Try.ntmps7
  go_wp2_with fail
  refine (szTable_any _ t _ _ (HX.out.on (by repeat (first | with_reducible exact Below.refl _ _ | with_reducible assumption | with_reducible refine ch_alloc ?_ _ | with_reducible refine Below.drew ?_ | with_reducible refine below_draws _ ?_ | (with_reducible refine Below.setCell ?_ ?_ _; rotate_left; focus (first | with_reducible exact Nat.le_refl _ | (simp; done) | (simp; omega) | (simp at *; omega))) | with_reducible refine ch_trans ?_ (by with_reducible assumption)))) HF.out (by omega) (by omega)).mono ?_
  rintro e w1 ⟨r, rfl, b1, hr⟩
  have HL1 := HL.on b1
  obtain ⟨c0, c1, c2⟩ := HL1.three
  rcases hr with rfl | ⟨r0, r1, few⟩
  · go_wp2
    go_ret
    exact ⟨rfl, (by repeat (first | with_reducible exact Below.refl _ _ | with_reducible assumption | with_reducible refine ch_alloc ?_ _ | with_reducible refine Below.drew ?_ | with_reducible refine below_draws _ ?_ | (with_reducible refine Below.setCell ?_ ?_ _; rotate_left; focus (first | with_reducible exact Nat.le_refl _ | (simp; done) | (simp; omega) | (simp at *; omega))) | with_reducible refine ch_trans ?_ (by with_reducible assumption)))⟩
  go_wp2_with fail
  refine (toTable_any _ t _ (HX.out.on (by repeat (first | with_reducible exact Below.refl _ _ | with_reducible assumption | with_reducible refine ch_alloc ?_ _ | with_reducible refine Below.drew ?_ | with_reducible refine below_draws _ ?_ | (with_reducible refine Below.setCell ?_ ?_ _; rotate_left; focus (first | with_reducible exact Nat.le_refl _ | (simp; done) | (simp; omega) | (simp at *; omega))) | with_reducible refine ch_trans ?_ (by with_reducible assumption)))) few).mono ?_
  rintro e w2 ⟨y, rfl, b2, hy, _⟩
  obtain ⟨cv2, kv2, rfl, hc2, hk2⟩ := hy
  have HL2 := HL1.on b2
  have HC2 : Hid (ColsV w2 cv2 t.cols) := hc2
  clear c0 c1 c2 hc2 hk2
  obtain ⟨c0, c1, c2⟩ := HL2.three
  go_wp2_with fail
  refine (colAt_spec _ cv2 kv2 t.cols s _ (HC2.out.on (by repeat (first | with_reducible exact Below.refl _ _ | with_reducible assumption | with_reducible refine ch_alloc ?_ _ | with_reducible refine Below.drew ?_ | with_reducible refine below_draws _ ?_ | (with_reducible refine Below.setCell ?_ ?_ _; rotate_left; focus (first | with_reducible exact Nat.le_refl _ | (simp; done) | (simp; omega) | (simp at *; omega))) | with_reducible refine ch_trans ?_ (by with_reducible assumption))))).mono ?_
  rintro e w3 ⟨rfl, b3⟩
  have HL3 := HL2.on b3
  clear c0 c1 c2
  obtain ⟨c0, c1, c2⟩ := HL3.three
  go_wp2_with fail
  refine (toTable_any _ t _ (HX.out.on (by repeat (first | with_reducible exact Below.refl _ _ | with_reducible assumption | with_reducible refine ch_alloc ?_ _ | with_reducible refine Below.drew ?_ | with_reducible refine below_draws _ ?_ | (with_reducible refine Below.setCell ?_ ?_ _; rotate_left; focus (first | with_reducible exact Nat.le_refl _ | (simp; done) | (simp; omega) | (simp at *; omega))) | with_reducible refine ch_trans ?_ (by with_reducible assumption)))) few).mono ?_
  rintro e w4 ⟨y, rfl, b4, hy, _⟩
  obtain ⟨a4, p4, o4, q4, rfl, hx4, hc4, hk4⟩ := hy.lit
  have HX4 : Hid (TabV w4 #[.string t.name, .slice a4 t.cols.length p4, .slice o4 t.keys.length q4] t) := hx4
  have HL4 := HL3.on b4
  have HM4 := Loc.new w4 #[.string t.name, .slice a4 t.cols.length p4, .slice o4 t.keys.length q4] 41
  have HC4 : Hid (ColsV w4 (.slice a4 t.cols.length p4) t.cols) := hc4
  clear c0 c1 c2 hc4 hk4 hx4 hy
  obtain ⟨c0, c1, c2⟩ := HL4.three
  go_wp2_with fail
  refine (colAt_impl _ _ _ t.cols s _ (HC4.out.on (by repeat (first | with_reducible exact Below.refl _ _ | with_reducible assumption | with_reducible refine ch_alloc ?_ _ | with_reducible refine Below.drew ?_ | with_reducible refine below_draws _ ?_ | (with_reducible refine Below.setCell ?_ ?_ _; rotate_left; focus (first | with_reducible exact Nat.le_refl _ | (simp; done) | (simp; omega) | (simp at *; omega))) | with_reducible refine ch_trans ?_ (by with_reducible assumption)))) HF.out.2.1 (by unfold maxLen; omega)).mono ?_
  rintro e w5 ⟨rfl, b5⟩
  have HL5 := HL4.on (w' := w5) (by repeat (first | with_reducible exact Below.refl _ _ | with_reducible assumption | with_reducible refine ch_alloc ?_ _ | with_reducible refine Below.drew ?_ | with_reducible refine below_draws _ ?_ | (with_reducible refine Below.setCell ?_ ?_ _; rotate_left; focus (first | with_reducible exact Nat.le_refl _ | (simp; done) | (simp; omega) | (simp at *; omega))) | with_reducible refine ch_trans ?_ (by with_reducible assumption)))
  have HM5 := HM4.on (w' := w5) (by repeat (first | with_reducible exact Below.refl _ _ | with_reducible assumption | with_reducible refine ch_alloc ?_ _ | with_reducible refine Below.drew ?_ | with_reducible refine below_draws _ ?_ | (with_reducible refine Below.setCell ?_ ?_ _; rotate_left; focus (first | with_reducible exact Nat.le_refl _ | (simp; done) | (simp; omega) | (simp at *; omega))) | with_reducible refine ch_trans ?_ (by with_reducible assumption)))
  clear c0 c1 c2
  obtain ⟨c0, c1, c2⟩ := HL5.three
  obtain ⟨d0, d1, d2⟩ := HM5.three
  go_wp2_with fail
  go_region_with (first
    | (go_at_call 15; refine (toTable_any _ t _ (HX.out.on (by repeat (first | with_reducible exact Below.refl _ _ | with_reducible assumption | with_reducible refine ch_alloc ?_ _ | with_reducible refine Below.drew ?_ | with_reducible refine below_draws _ ?_ | (with_reducible refine Below.setCell ?_ ?_ _; rotate_left; focus (first | with_reducible exact Nat.le_refl _ | (simp; done) | (simp; omega) | (simp at *; omega))) | with_reducible refine ch_trans ?_ (by with_reducible assumption)))) few).mono ?_; rintro e w6 ⟨y, rfl, b6, hy, _⟩; have HM6 := HM5.on (w' := w6) (by repeat (first | with_reducible exact Below.refl _ _ | with_reducible assumption | with_reducible refine ch_alloc ?_ _ | with_reducible refine Below.drew ?_ | with_reducible refine below_draws _ ?_ | (with_reducible refine Below.setCell ?_ ?_ _; rotate_left; focus (first | with_reducible exact Nat.le_refl _ | (simp; done) | (simp; omega) | (simp at *; omega))) | with_reducible refine ch_trans ?_ (by with_reducible assumption))); obtain ⟨f0, f1, f2⟩ := HM6.three; have HY : Hid (TabV w6 y t) := hy; clear hy)
    | (go_at_call 17; refine (eqTable_same _ _ t _ (HX4.out.on (by repeat (first | with_reducible exact Below.refl _ _ | with_reducible assumption | with_reducible refine ch_alloc ?_ _ | with_reducible refine Below.drew ?_ | with_reducible refine below_draws _ ?_ | (with_reducible refine Below.setCell ?_ ?_ _; rotate_left; focus (first | with_reducible exact Nat.le_refl _ | (simp; done) | (simp; omega) | (simp at *; omega))) | with_reducible refine ch_trans ?_ (by with_reducible assumption)))) (HY.out.on (by repeat (first | with_reducible exact Below.refl _ _ | with_reducible assumption | with_reducible refine ch_alloc ?_ _ | with_reducible refine Below.drew ?_ | with_reducible refine below_draws _ ?_ | (with_reducible refine Below.setCell ?_ ?_ _; rotate_left; focus (first | with_reducible exact Nat.le_refl _ | (simp; done) | (simp; omega) | (simp at *; omega))) | with_reducible refine ch_trans ?_ (by with_reducible assumption))))).mono ?_; rintro e w7 ⟨rfl, b7⟩))
  all_goals
    go_wp2
    go_ret
    exact ⟨rfl, (by repeat (first | with_reducible exact Below.refl _ _ | with_reducible assumption | with_reducible refine ch_alloc ?_ _ | with_reducible refine Below.drew ?_ | with_reducible refine below_draws _ ?_ | (with_reducible refine Below.setCell ?_ ?_ _; rotate_left; focus (first | with_reducible exact Nat.le_refl _ | (simp; done) | (simp; omega) | (simp at *; omega))) | with_reducible refine ch_trans ?_ (by with_reducible assumption)))⟩

theorem own : ownKnob Try.prog.godebug = none := by kernel_rfl
theorem laidOut : laidOutB Try.prog = true := by kernel_rfl

set_option maxRecDepth 100000 in
theorem lifted (os : Os) (started : os.Started) (H : Type) (enc : TypeId × Value → H) :
    ReturnsInHanded {} Try.checked os 7 .any (Rows.fnExactColAtSpec.pre6 enc Try.prog Try.f7 Rows.fnExactColAtRow.domain false) (Rows.fnExactColAtSpec.post enc Try.prog Try.f7 false true false false) := by
  refine returnsInHanded_of_change (C := Try.checked) own started (by kernel_rfl) Try.func7
    (ChangeSpec.witness6 (enc := enc) (C := Try.checked) false ⟨#[], #[.agg #[.string ByteArray.empty, .slice none 0 0, .slice none 0 0], .string ByteArray.empty], []⟩ 8 (by kernel_rfl) (by kernel_rfl) (by kernel_rfl) (by kernel_rfl)) ?_
  intro W base args ds gs before hval0 hW _ _
  have hval : ∀ (j : Nat) t v, Try.f7.params[j]? = some t → args[j]? = some v → Value.okWide Try.prog W .any base t v := hval0
  have hW' := hW
  obtain ⟨p, q, hA0, hV, rfl, _, _⟩ := hW
  have hA : DataW.TrodAll enc Try.prog W 0 (fun _ => true) true Try.f7.params.toList args.toList ds p := hA0
  rw [Try.params7] at hA hval
  obtain ⟨v0, v1, d0, d1, p0, p1, rfl, rfl, rfl, h0, h1⟩ := trodAll_two hA
  obtain ⟨rfl, rfl⟩ := trodVars_none hV
  have h0k := h0
  have h1k := h1
  obtain ⟨cs, rfl, hsz⟩ := okWide_struct Try.underlying36 (hval 0 36 v0 rfl rfl)
  obtain ⟨k, hk⟩ := h0
  obtain ⟨x, t, hc, hx, hf⟩ := open_tab hk
  have hc' : cs = x := by apply Array.toList_inj.1; simpa [Value.cells] using hc
  subst hc'
  obtain ⟨s, rfl, rfl, rfl, hs⟩ := open_string Try.underlying9 (hval 1 9 v1 rfl rfl) h1
  clear hA0 hval0
  simp only [List.append_nil] at hW'
  have hlt : ∀ x ∈ p0, x.block < W.heap.size := fun x hx => by simpa using hW'.lt x (by simpa using hx)
  refine (walk cs t s W hx hf hs).mono fun e W' ⟨he, bel⟩ => ?_
  subst he
  exact ⟨_, rfl, _, _, _, [], _, [], hW', trodAll_mk1 (shut_bool Try.underlying4 _), trodAll_mk2 (Below.trod laidOut (by kernel_rfl) (of_decide_eq_true (by kernel_rfl)) h0k bel hlt) (shut_string Try.underlying9 hs), rfl, bel.frame _, fun h => by cases h⟩

theorem over : Rows.FnExactColAtSaid :=
  OpenClaim.holds_of_wide 7 Try.f7 rfl rfl rfl rfl rfl rfl rfl ⟨rfl, rfl, rfl, rfl, rfl⟩ rfl rfl rfl rfl rfl (by kernel_rfl) Try.func7 (by kernel_rfl)
    (of_decide_eq_true (by kernel_rfl)) (by unfold Func.isWrapper; first | (rw [if_pos (by decide +kernel)]; kernel_rfl) | (rw [if_neg (by decide +kernel)]; exact ⟨rfl, rfl⟩))
    (fun os started H enc _ => lifted os started H enc)
end Go.Proofs.Ytcnoiohgaheegah.lawColAt
namespace Go.Proofs.Ytcnoiohgaheegah
theorem fnExactColAt_holds : Rows.FnExactColAtSaid := lawColAt.over
#print axioms fnExactColAt_holds
end Go.Proofs.Ytcnoiohgaheegah
