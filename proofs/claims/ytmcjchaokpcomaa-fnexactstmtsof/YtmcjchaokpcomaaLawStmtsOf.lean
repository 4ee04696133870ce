/- For every list of records and every number the landed StmtsOf answers as the given one does, leaves the records as they were, and its answer owns its memory: 'FnExactStmtsOf' returns true at every argument, with no condition; its arguments read afterwards as they read before. -/
import Derived.Test.YtmcjchaokpcomaaSp
import Derived.Test.YtmcjchaokpcomaaOpenLs
namespace Go.Proofs.Ytmcjchaokpcomaa.lawStmtsOf
open Go.ChangeShapes Go.WideShapes Go.ChangeAt Go.RowKit

set_option maxRecDepth 100000 in
set_option maxHeartbeats 4000000 in
theorem walk (v : Value) (ts : List Lc) (x : Int) (w : World) (hx : RecsV w v ts) (hf : lfits ts) :
    Calls Try.prog 6 #[v, .int .i64 x] w fun e w' => e = .returned (.bool true) ∧ Below w.heap.size w w' := by
  obtain ⟨a, cap, rfl, hl, hm, hx⟩ := hx.lit
  have HX : Hid (RecsV w (.slice a ts.length cap) ts) := hx
  have HF : Hid (lfits ts) := hf
  clear hx hf hl hm
  go_enter Try.func6, Try.ntmps6
  go_wp2_with fail
  refine (szRecS_any _ ts _ _ (HX.out.on (by repeat (first | with_reducible exact Below.refl _ _ | with_reducible assumption | with_reducible refine ch_alloc ?_ _ | with_reducible refine Below.drew ?_ | with_reducible refine below_draws _ ?_ | (with_reducible refine Below.setCell ?_ ?_ _; rotate_left; focus (first | with_reducible exact Nat.le_refl _ | (simp; done) | (simp; omega) | (simp at *; omega))) | with_reducible refine ch_trans ?_ (by with_reducible assumption)))) HF.out (by omega) (by omega)).mono ?_
  rintro e w1 ⟨r, rfl, b1, hr⟩
  rcases hr with rfl | ⟨r0, r1, few⟩
  · go_wp2
    go_ret
    exact ⟨rfl, (by repeat (first | with_reducible exact Below.refl _ _ | with_reducible assumption | with_reducible refine ch_alloc ?_ _ | with_reducible refine Below.drew ?_ | with_reducible refine below_draws _ ?_ | (with_reducible refine Below.setCell ?_ ?_ _; rotate_left; focus (first | with_reducible exact Nat.le_refl _ | (simp; done) | (simp; omega) | (simp at *; omega))) | with_reducible refine ch_trans ?_ (by with_reducible assumption)))⟩
  have hb1 : Below w.heap.size w w1 := (by repeat (first | with_reducible exact Below.refl _ _ | with_reducible assumption | with_reducible refine ch_alloc ?_ _ | with_reducible refine Below.drew ?_ | with_reducible refine below_draws _ ?_ | (with_reducible refine Below.setCell ?_ ?_ _; rotate_left; focus (first | with_reducible exact Nat.le_refl _ | (simp; done) | (simp; omega) | (simp at *; omega))) | with_reducible refine ch_trans ?_ (by with_reducible assumption)))
  have FEW : Hid (lfews ts) := few
  have HTO : Hid (∀ u : World, Below w.heap.size w u → Calls Try.prog 14 #[.slice a ts.length cap] u fun e w' => ∃ a2 c2, e = .returned (.slice a2 ts.length c2) ∧ Below u.heap.size u w' ∧ RecsX w' (.slice a2 ts.length c2) ts ∧ New RecsS u.heap.size w' (.slice a2 ts.length c2)) := fun u hu => (toRecS_full _ ts u (HX.out.on hu) FEW.out).mono fun e w' ⟨y, h1, h2, h3⟩ => by
    obtain ⟨a2, c2, rfl, _⟩ := h3.out.1.lit
    exact ⟨a2, c2, h1, h2, ⟨h3.out.1, _, h3.out.2⟩, h3.out.2⟩
  have HLEN : Hid ((stsL ts x).length ≤ 1048576) := Nat.le_trans (stsL_len ts x) few.1
  have HSP : Hid (∀ (u : World) (y : Value), RecsX u y ts → Calls Try.prog 23 #[y, .int .i64 x] u fun e w' => ∃ kv, e = .returned kv ∧ Below u.heap.size u w' ∧ StmtsV w' kv (stsL ts x)) := fun u y hy => (stmtsOf_spec x y ts u hy few).mono fun e w' ⟨kv, h1, h2, h3⟩ => ⟨kv, h1, h2, h3.read⟩
  have HIM : Hid (∀ (u : World) (y : Value), RecsX u y ts → Calls Try.prog 24 #[y, .int .i64 x] u fun e w' => ∃ kv, e = .returned kv ∧ Below u.heap.size u w' ∧ StmtsG w' u.heap.size kv (stsL ts x)) := fun u y hy => stmtsOf_impl x y ts u hy few
  clear few b1 HX HF
  go_wp2_with fail
  refine (HTO.out _ hb1).mono ?_
  rintro e w2 ⟨a2, c2, rfl, b2, hy, _⟩
  have HY2 : Hid (RecsX w2 (.slice a2 ts.length c2) ts) := hy
  have hb2 := ch_trans hb1 b2
  clear hy b2 hb1
  go_wp2_with fail
  refine (HSP.out _ _ HY2.out).mono ?_
  rintro e w3 ⟨kv0, rfl, b3, hg0⟩
  obtain ⟨z0, m0, q0, rfl⟩ := StmtsV.lit3 hg0
  have HG0 : Hid (StmtsV w3 (.slice z0 m0 q0) (stsL ts x)) := hg0
  have hb3 := ch_trans hb2 b3
  clear hg0 b3 hb2 HY2
  go_wp2_with fail
  refine (HTO.out _ hb3).mono ?_
  rintro e w4 ⟨a4, c4, rfl, b4, hy, hn⟩
  have HX4 : Hid (RecsX w4 (.slice a4 ts.length c4) ts) := hy
  obtain ⟨S, hSd⟩ : ∃ S : Nat → Prop, S = fun c => w3.heap.size ≤ c ∧ c < w4.heap.size := ⟨_, rfl⟩
  have HSH : Hid (RecsS S w4 (.slice a4 ts.length c4)) := by subst hSd; exact hn
  have HSD : Hid (∀ c, S c → w3.heap.size ≤ c ∧ c < w4.heap.size) := by subst hSd; exact fun c h => h
  have hs34 : w3.heap.size ≤ w4.heap.size := b4.size
  have hb34 : Below w3.heap.size w3 w4 := b4
  clear hy hn hSd b4
  go_wp2_with fail
  refine (HIM.out _ _ HX4.out).mono ?_
  rintro e w5 ⟨kv1, rfl, b5, hg1⟩
  obtain ⟨a1, n1, e1, rfl⟩ := StmtsG.lit3 hg1
  have HG1 : Hid (StmtsG w5 w4.heap.size (.slice a1 n1 e1) (stsL ts x)) := hg1
  have hb35 := ch_trans hb34 b5
  have hv5 : Below w4.heap.size w4 w5 := b5
  clear hg1 b5 hb34
  go_wp2_with fail
  refine (eqStmtS_same _ _ (stsL ts x) _ (StmtsG.read HG1.out) (StmtsV.on HG0.out hb35)).mono ?_
  rintro e w6 ⟨rfl, b6⟩
  have hb36 := ch_trans hb35 b6
  have hv6 := ch_trans hv5 b6
  have HG6 : Hid (StmtsG w6 w4.heap.size (.slice a1 n1 e1) (stsL ts x)) := StmtsG.on HG1.out b6
  have hb6 := ch_trans hb3 hb36
  clear b6 hb35 hv5 HG1
  go_wp2_with fail
  refine (HTO.out _ (show Below w.heap.size w _ from (by repeat (first | with_reducible exact Below.refl _ _ | with_reducible assumption | with_reducible refine ch_alloc ?_ _ | with_reducible refine Below.drew ?_ | with_reducible refine below_draws _ ?_ | (with_reducible refine Below.setCell ?_ ?_ _; rotate_left; focus (first | with_reducible exact Nat.le_refl _ | (simp; done) | (simp; omega) | (simp at *; omega))) | with_reducible refine ch_trans ?_ (by with_reducible assumption))))).mono ?_
  rintro e w7 ⟨a7, c7, rfl, b7, hy, _⟩
  have HYT : Hid (RecsX w7 (.slice a7 ts.length c7) ts) := hy
  have h67 : Below w6.heap.size w6 w7 := (by repeat (first | with_reducible exact Below.refl _ _ | with_reducible assumption | with_reducible refine ch_alloc ?_ _ | with_reducible refine Below.drew ?_ | with_reducible refine below_draws _ ?_ | (with_reducible refine Below.setCell ?_ ?_ _; rotate_left; focus (first | with_reducible exact Nat.le_refl _ | (simp; done) | (simp; omega) | (simp at *; omega))) | with_reducible refine ch_trans ?_ (by with_reducible assumption)))
  clear hy b7
  go_wp2_with fail
  refine (eqRecS_same _ _ ts _ (HX4.out.1.on (show Below w4.heap.size w4 w7 from ch_trans hv6 h67)) HYT.out.1).mono ?_
  rintro e w9 ⟨rfl, b9⟩
  have h69 := ch_trans h67 b9
  have hb39 := ch_trans hb36 h69
  have hv9 := ch_trans hv6 h69
  have HG9 : Hid (StmtsG w9 w4.heap.size (.slice a1 n1 e1) (stsL ts x)) := StmtsG.on HG6.out h69
  have HSH9 : Hid (RecsS S w9 (.slice a4 ts.length c4)) := RecsS.good.holds S _ _ _ (fun c hc hl => hv9.block c hl) HSH.out
  clear b9 h67 HYT h69 hb36 hv6 HG6 hb6 HSH HX4
  go_wp2_with fail
  refine (markRecS_shape S _ 1 _ HSH9.out (by omega)).mono ?_
  rintro e w10 ⟨K, rfl, _, hM⟩
  have hb310 : Below w3.heap.size w3 w10 := hb39.trans (hM.turns.toBelow (fun c hc => (HSD.out c hc).1) (by have := hv9.size; omega))
  have HG10 : Hid (StmtsG w10 w4.heap.size (.slice a1 n1 e1) (stsL ts x)) := StmtsG.turned HG9.out hM.turns (fun c hc => by have := (HSD.out c hc).2; omega)
  have hv410 : w4.heap.size ≤ w10.heap.size := Nat.le_trans hv9.size hM.turns.size
  have hk0 : decide ((K : Int) < 0) = false := by simp
  clear hM HSH9 HG9 hb39 hv9
  go_wp2_with (go_at_call 25; refine (eqStmtS_same _ _ (stsL ts x) _ (StmtsG.read HG10.out) (StmtsV.on HG0.out hb310)).mono ?_; rintro e w11 ⟨rfl, b11⟩)
  have hb311 := ch_trans hb310 b11
  have HG11 : Hid (StmtsG w11 w4.heap.size (.slice a1 n1 e1) (stsL ts x)) := StmtsG.on HG10.out b11
  have hv411 : w4.heap.size ≤ w11.heap.size := Nat.le_trans hv410 b11.size
  clear b11 hb310 HG10 hv410
  obtain ⟨ps, hp1, hp2, hp3⟩ := HG11.out.pl HLEN.out
  refine (markS hp1 hp2 hp3 hv411).mono ?_
  rintro e w12 ⟨rfl, hT, hh⟩
  have HH : Hid (HeldS w12 (.slice a1 n1 e1) ps) := hh
  have hb312 : Below w3.heap.size w3 w12 := hb311.trans (hT.mono hs34)
  have HHS : Hid (∀ u : World, HeldS u (.slice a1 n1 e1) ps → Calls Try.prog 27 #[.slice a1 n1 e1, .int .i64 1] u fun e w' => e = .returned (.int .i64 ((1 + ps.length : Nat) : Int)) ∧ Below u.heap.size u w') := fun u hu => heldS hu
  clear hT hh hb311 HG11 hv411
  generalize 1 + ps.length = M at HHS ⊢
  have hm0 : decide ((M : Int) < 0) = false := by simp
  have hmm : ((M : Int) != M) = false := by simp
  have hme : ((M : Int) == M) = true := by simp
  go_wp2_with fail
  refine (HHS.out _ HH.out).mono ?_
  rintro e w13 ⟨rfl, b13⟩
  have hb313 := ch_trans hb312 b13
  have HH13 : Hid (HeldS w13 (.slice a1 n1 e1) ps) := HeldS.on HH.out b13
  have hb13 := ch_trans hb3 hb313
  clear b13 hb312 HH
  go_wp2_with fail
  refine (HTO.out _ hb13).mono ?_
  rintro e w14 ⟨a14, c14, rfl, b14, hy, _⟩
  have HY14 : Hid (RecsX w14 (.slice a14 ts.length c14) ts) := hy
  clear hy
  go_wp2_with fail
  refine (HIM.out _ _ HY14.out).mono ?_
  rintro e w15 ⟨kv2, rfl, b15, hg2⟩
  obtain ⟨a3, n3, e3, rfl⟩ := StmtsG.lit3 hg2
  have HG2 : Hid (StmtsV w15 (.slice a3 n3 e3) (stsL ts x)) := StmtsG.read hg2
  have h1315 := ch_trans b14 b15
  clear hg2 b14 b15 HY14
  go_wp2_with fail
  refine (eqStmtS_same _ _ (stsL ts x) _ HG2.out (StmtsV.on HG0.out (ch_trans hb313 h1315))).mono ?_
  rintro e w16 ⟨rfl, b16⟩
  have h1316 := ch_trans h1315 b16
  clear b16 h1315 HG2
  go_wp2_with fail
  refine (HHS.out _ (HeldS.on HH13.out h1316)).mono ?_
  rintro e w17 ⟨rfl, b17⟩
  have hb17 := ch_trans hb13 (ch_trans h1316 b17)
  clear b17 h1316
  go_wp2
  go_ret
  exact ⟨rfl, hb17⟩

theorem own : ownKnob Try.prog.godebug = none := by kernel_rfl
theorem laidOut : laidOutB Try.prog = true := by kernel_rfl

set_option maxRecDepth 100000 in
theorem lifted (os : Os) (started : os.Started) (H : Type) (enc : TypeId × Value → H) :
    ReturnsInHanded {} Try.checked os 6 .any (Rows.fnExactStmtsOfSpec.pre6 enc Try.prog Try.f6 Rows.fnExactStmtsOfRow.domain false) (Rows.fnExactStmtsOfSpec.post enc Try.prog Try.f6 false true false false) := by
  refine returnsInHanded_of_change (C := Try.checked) own started (by kernel_rfl) Try.func6
    (ChangeSpec.witness6 (enc := enc) (C := Try.checked) false ⟨#[], #[.slice none 0 0, .int .i64 0], []⟩ 8 (by kernel_rfl) (by kernel_rfl) (by kernel_rfl) (by kernel_rfl)) ?_
  intro W base args ds gs before hval0 hW _ _
  have hval : ∀ (j : Nat) t v, Try.f6.params[j]? = some t → args[j]? = some v → Value.okWide Try.prog W .any base t v := hval0
  have hW' := hW
  obtain ⟨p, q, hA0, hV, rfl, _, _⟩ := hW
  have hA : DataW.TrodAll enc Try.prog W 0 (fun _ => true) true Try.f6.params.toList args.toList ds p := hA0
  rw [Try.params6] at hA hval
  obtain ⟨v0, v1, d0, d1, p0, p1, rfl, rfl, rfl, h0, h1⟩ := trodAll_two hA
  obtain ⟨rfl, rfl⟩ := trodVars_none hV
  have h0k := h0
  obtain ⟨a0, len0, cap0, rfl⟩ := okWide_slice Try.underlying48 (hval 0 48 v0 rfl rfl)
  obtain ⟨k, hk⟩ := h0
  obtain ⟨x, l, hc, hx, hf⟩ := open_recs hk
  have hc' : x = .slice a0 len0 cap0 := by simpa [Value.cells] using hc.symm
  subst hc'
  obtain ⟨n, rfl, rfl, rfl, wn⟩ := open_int Try.underlying3 (hval 1 3 v1 rfl rfl) h1
  clear hA0 hval0
  simp only [List.append_nil] at hW'
  have hlt : ∀ x ∈ p0, x.block < W.heap.size := fun x hx => by simpa using hW'.lt x (by simp [hx])
  refine (walk _ l n W hx hf).mono fun e W' ⟨he, bel⟩ => ?_
  subst he
  exact ⟨_, rfl, _, _, _, [], _, [], hW', trodAll_mk1 (shut_bool Try.underlying4 _), trodAll_mk2 (Below.trod laidOut (by kernel_rfl) (of_decide_eq_true (by kernel_rfl)) h0k bel hlt) (shut_int Try.underlying3 wn), rfl, bel.frame _, fun h => by cases h⟩

theorem over : Rows.FnExactStmtsOfSaid :=
  OpenClaim.holds_of_wide 6 Try.f6 rfl rfl rfl rfl rfl rfl rfl ⟨rfl, rfl, rfl, rfl, rfl⟩ rfl rfl rfl rfl rfl (by kernel_rfl) Try.func6 (by kernel_rfl)
    (of_decide_eq_true (by kernel_rfl)) (by unfold Func.isWrapper; first | (rw [if_pos (by decide +kernel)]; kernel_rfl) | (rw [if_neg (by decide +kernel)]; exact ⟨rfl, rfl⟩))
    (fun os started H enc _ => lifted os started H enc)
end Go.Proofs.Ytmcjchaokpcomaa.lawStmtsOf
namespace Go.Proofs.Ytmcjchaokpcomaa
theorem fnExactStmtsOf_holds : Rows.FnExactStmtsOfSaid := lawStmtsOf.over
#print axioms fnExactStmtsOf_holds
end Go.Proofs.Ytmcjchaokpcomaa
