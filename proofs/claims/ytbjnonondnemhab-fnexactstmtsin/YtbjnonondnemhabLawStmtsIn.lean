/- For every batch the landed StmtsIn answers as the given one does, leaves the batch as it was, and its answer owns its memory: 'FnExactStmtsIn' returns true at every argument, with no condition; its argument reads afterwards as it read before. -/
import Derived.Test.YtbjnonondnemhabSib
import Derived.Test.YtbjnonondnemhabOpenB
import Derived.Test.YtbjnonondnemhabPo
import Derived.Test.YtbjnonondnemhabOrd
namespace Go.Proofs.Ytbjnonondnemhab.lawStmtsIn
open Go.ChangeShapes Go.WideShapes Go.ChangeAt Go.RowKit

set_option maxRecDepth 100000 in
set_option maxHeartbeats 4000000 in
theorem walk (x : Array Value) (t : Btc) (w : World) (hx : BatV w x t) (hf : t.fit) :
    Calls Try.prog 4 #[.agg x] w fun e w' => e = .returned (.bool true) ∧ Below w.heap.size w w' := by
  obtain ⟨a, p, rfl, hx⟩ := hx
  have HX : Hid (BatV w #[.int .i64 t.lsn, .int .i64 t.prev, .slice a t.parts.length p] t) := ⟨_, _, rfl, hx⟩
  have HF : Hid t.fit := hf
  have HL := Loc.new w #[.int .i64 t.lsn, .int .i64 t.prev, .slice a t.parts.length p] 46
  have hbv : Below w.heap.size w (w.alloc (.cells #[.int .i64 t.lsn, .int .i64 t.prev, .slice a t.parts.length p] 46)) := (by repeat (first | with_reducible exact Below.refl _ _ | with_reducible assumption | with_reducible refine ch_alloc ?_ _ | with_reducible refine Below.drew ?_ | with_reducible refine below_draws _ ?_ | (with_reducible refine Below.setCell ?_ ?_ _; rotate_left; focus (first | with_reducible exact Nat.le_refl _ | (simp; done) | (simp; omega) | (simp at *; omega))) | with_reducible refine ch_trans ?_ (by with_reducible assumption)))
  clear hx hf
  go_enter Try.func4, Try.ntmps4
  go_wp2_with fail
  refine (szBatch_any _ t _ _ (HX.out.on hbv) HF.out (by omega) (by omega)).mono ?_
  rintro e w1 ⟨r, rfl, b1, hr⟩
  have HL1 := HL.on b1
  have hb1 := ch_trans hbv b1
  clear b1 hbv HL
  obtain ⟨c0, c1, c2⟩ := HL1.three
  rcases hr with rfl | ⟨r0, r1, few⟩
  · go_wp2
    go_ret
    exact ⟨rfl, hb1⟩
  have FEW : Hid t.few := few
  have HTO : Hid (∀ u : World, Below w.heap.size w u → Calls Try.prog 17 #[.agg #[.int .i64 t.lsn, .int .i64 t.prev, .slice a t.parts.length p]] u fun e w' => ∃ a2 q2, e = .returned (.agg #[.int .i64 t.lsn, .int .i64 t.prev, .slice a2 t.parts.length q2]) ∧ Below u.heap.size u w' ∧ PartsX w' (.slice a2 t.parts.length q2) t.parts ∧ New PartsS u.heap.size w' (.slice a2 t.parts.length q2)) := fun u hu => (toBatch_full _ t u (HX.out.on hu) FEW.out).mono fun e w' ⟨y, h1, h2, h3⟩ => by
    obtain ⟨a2, q2, rfl, _⟩ := h3.out.1.lit
    exact ⟨a2, q2, h1, h2, ⟨h3.out.1, _, h3.out.2⟩, h3.out.2⟩
  have HLEN : Hid ((inL t.parts).length ≤ 1048576) := by show (inL t.parts).length ≤ 1048576; rw [inL, List.length_map]; exact few.1
  have HSP : Hid (∀ (u : World) (y : Value), PartsX u y t.parts → Calls Try.prog 16 #[.agg #[.int .i64 t.lsn, .int .i64 t.prev, y]] u fun e w' => ∃ kv, e = .returned kv ∧ Below u.heap.size u w' ∧ StmtsV w' kv (inL t.parts)) := fun u y hy => (stmtsIn_spec _ _ y t.parts u hy few).mono fun e w' ⟨kv, h1, h2, h3⟩ => ⟨kv, h1, h2, h3.read⟩
  have HIM : Hid (∀ (u : World) (y : Value), PartsX u y t.parts → Calls Try.prog 18 #[.agg #[.int .i64 t.lsn, .int .i64 t.prev, y]] u fun e w' => ∃ kv, e = .returned kv ∧ Below u.heap.size u w' ∧ StmtsG w' u.heap.size kv (inL t.parts)) := fun u y hy => stmtsIn_impl _ _ y t.parts u hy few
  clear few HX HF
  go_wp2_with fail
  refine (HTO.out _ hb1).mono ?_
  rintro e w2 ⟨a2, q2, rfl, b2, hy, _⟩
  have HY2 : Hid (PartsX w2 (.slice a2 t.parts.length q2) t.parts) := hy
  have hb2 := ch_trans hb1 b2
  have HL2 := HL1.on b2
  clear hy b2 hb1 HL1 c0 c1 c2
  go_wp2_with fail
  refine (HSP.out _ _ HY2.out).mono ?_
  rintro e w3 ⟨kv0, rfl, b3, hg0⟩
  obtain ⟨z0, m0, q0, rfl⟩ := StmtsV.lit3 hg0
  have HG0 : Hid (StmtsV w3 (.slice z0 m0 q0) (inL t.parts)) := hg0
  have hb3 := ch_trans hb2 b3
  have HL3 := HL2.on b3
  clear hg0 b3 hb2 HL2 HY2
  obtain ⟨c0, c1, c2⟩ := HL3.three
  go_wp2_with fail
  refine (HTO.out _ hb3).mono ?_
  rintro e w4 ⟨a4, c4, rfl, b4, hy, hn⟩
  have HX4 : Hid (PartsX w4 (.slice a4 t.parts.length c4) t.parts) := hy
  have HN4 := Loc.new w4 #[.int .i64 t.lsn, .int .i64 t.prev, .slice a4 t.parts.length c4] 52
  obtain ⟨S, hSd⟩ : ∃ S : Nat → Prop, S = fun c => w3.heap.size ≤ c ∧ c < w4.heap.size := ⟨_, rfl⟩
  have HSH : Hid (PartsS S w4 (.slice a4 t.parts.length c4)) := by subst hSd; exact hn
  have HSD : Hid (∀ c, S c → w3.heap.size ≤ c ∧ c < w4.heap.size) := by subst hSd; exact fun c h => h
  have hs34 : w3.heap.size ≤ w4.heap.size := b4.size
  have hv4 : Below w4.heap.size w4 (w4.alloc (.cells #[.int .i64 t.lsn, .int .i64 t.prev, .slice a4 t.parts.length c4] 52)) := (by repeat (first | with_reducible exact Below.refl _ _ | with_reducible assumption | with_reducible refine ch_alloc ?_ _ | with_reducible refine Below.drew ?_ | with_reducible refine below_draws _ ?_ | (with_reducible refine Below.setCell ?_ ?_ _; rotate_left; focus (first | with_reducible exact Nat.le_refl _ | (simp; done) | (simp; omega) | (simp at *; omega))) | with_reducible refine ch_trans ?_ (by with_reducible assumption)))
  have hz4 : (w4.alloc (.cells #[.int .i64 t.lsn, .int .i64 t.prev, .slice a4 t.parts.length c4] 52)).heap.size = w4.heap.size + 1 := by simp
  have hb34 := ch_trans b4 hv4
  clear hy hn hSd b4 c0 c1 c2
  go_wp2_with fail
  generalize w4.alloc (.cells #[.int .i64 t.lsn, .int .i64 t.prev, .slice a4 t.parts.length c4] 52) = u4 at HN4 hv4 hz4 hb34 ⊢
  refine (HIM.out _ _ (HX4.out.on hv4)).mono ?_
  rintro e w5 ⟨kv1, rfl, b5, hg1⟩
  obtain ⟨a1, n1, e1, rfl⟩ := StmtsG.lit3 hg1
  rw [hz4] at hg1
  have HG1 : Hid (StmtsG w5 (w4.heap.size + 1) (.slice a1 n1 e1) (inL t.parts)) := hg1
  have HN5 := HN4.on b5
  have hb35 := ch_trans hb34 b5
  have hv5 := ch_trans hv4 b5
  have hz5 : w4.heap.size + 1 ≤ w5.heap.size := by rw [← hz4]; exact b5.size
  clear hg1 b5 hb34 hv4 HN4 hz4
  go_wp2_with fail
  refine (eqStmtS_same _ _ (inL t.parts) _ (StmtsG.read HG1.out) (StmtsV.on HG0.out hb35)).mono ?_
  rintro e w6 ⟨rfl, b6⟩
  have HN6 := HN5.on b6
  have HL6 := HL3.on (ch_trans hb35 b6)
  have hb36 := ch_trans hb35 b6
  have hv6 := ch_trans hv5 b6
  have HG6 : Hid (StmtsG w6 (w4.heap.size + 1) (.slice a1 n1 e1) (inL t.parts)) := StmtsG.on HG1.out b6
  have hz6 : w4.heap.size + 1 ≤ w6.heap.size := Nat.le_trans hz5 b6.size
  have hb6 := ch_trans hb3 hb36
  clear b6 HN5 hb35 hv5 HG1 hz5
  obtain ⟨c0, c1, c2⟩ := HL6.three
  obtain ⟨i0, i1, i2⟩ := HN6.three
  go_wp2_with fail
  refine region_plan [([0, 1], 2), ([], 3)] [4] (by kernel_rfl) (by kernel_rfl) ?_
  have hgd := Grows.drawn w6
  generalize { w6 with drawn := w6.drawn + 1 } = wd at hgd ⊢
  have hbd := ch_trans hb6 hgd
  have HLd := HL6.on hgd
  have HNd := HN6.on hgd
  clear c0 c1 c2 i0 i1 i2
  refine plan_on (by simp only [pick, List.getElem?_toArray, List.getElem?_cons_succ, List.getElem?_cons_zero]; rfl) ?_
  repeat (go_big_quiet_step ((intro hu; obtain ⟨c0, c1, c2⟩ := (HLd.on hu).three; obtain ⟨i0, i1, i2⟩ := (HNd.on hu).three; go_simp; (try exact rfl))))
  refine wpQuiet_nil ?_
  refine plan_call rfl rfl (fun K hK => ?_)
  go_simp
  go_at_call 17
  refine (HTO.out _ hbd).mono ?_
  rintro e w7 ⟨a7, q7, rfl, b7, hy, _⟩
  refine ⟨_, rfl, hK _ _ ⟨b7, ?_⟩⟩
  have HYT : Hid (PartsX w7 (.slice a7 t.parts.length q7) t.parts) := hy
  have hg67 := ch_trans hgd b7
  clear hK K hy
  refine plan_on rfl ?_
  refine wpQuiet_nil ?_
  refine plan_call rfl rfl (fun K hK => ?_)
  go_simp
  go_at_call 20
  refine (eqBatch_same _ _ t _ ⟨_, _, rfl, HX4.out.1.on (ch_trans hv6 hg67)⟩ ⟨_, _, rfl, HYT.out.1⟩).mono ?_
  rintro e w9 ⟨rfl, b9⟩
  refine ⟨_, rfl, hK _ _ ⟨b9, ?_⟩⟩
  have h69 := ch_trans hg67 b9
  have HN9 := HN6.on h69
  have hb39 := ch_trans hb36 h69
  have hv9 := ch_trans hv6 h69
  have HG9 : Hid (StmtsG w9 (w4.heap.size + 1) (.slice a1 n1 e1) (inL t.parts)) := StmtsG.on HG6.out h69
  have hz9 : w4.heap.size + 1 ≤ w9.heap.size := Nat.le_trans hz6 h69.size
  have HSH9 : Hid (PartsS S w9 (.slice a4 t.parts.length c4)) := PartsS.good.holds S _ _ _ (fun c _ hc => hv9.block c hc) HSH.out
  clear hK K b9 hg67 hgd hbd b7 HYT h69 HN6 hb36 hv6 HG6 hz6 hb6 HSH HX4 HL6 HLd HNd
  refine plan_end (by simp only [pick, List.getElem?_toArray, List.getElem?_cons_succ, List.getElem?_cons_zero]; rfl) ?_
  repeat (go_big_quiet_step ((intro hu; go_simp; (try exact rfl))))
  refine wpQuiet_nil ?_
  obtain ⟨i0, i1, i2⟩ := HN9.three
  go_wp2_with fail
  refine (markBatch_shape S _ _ _ 1 _ HSH9.out (by omega)).mono ?_
  rintro e w10 ⟨K, rfl, _, hM⟩
  have hb310 : Below w3.heap.size w3 w10 := hb39.trans (hM.turns.toBelow (fun c hc => (HSD.out c hc).1) (by omega))
  have HG10 : Hid (StmtsG w10 (w4.heap.size + 1) (.slice a1 n1 e1) (inL t.parts)) := StmtsG.turned HG9.out hM.turns (fun c hc => by have := (HSD.out c hc).2; omega)
  have hz10 : w4.heap.size + 1 ≤ w10.heap.size := Nat.le_trans hz9 hM.turns.size
  have hk0 : decide ((K : Int) < 0) = false := by simp
  clear hM HSH9 HG9 hz9 hb39 hv9 i0 i1 i2 HN9
  go_wp2_with (go_at_call 19; refine (eqStmtS_same _ _ (inL t.parts) _ (StmtsG.read HG10.out) (StmtsV.on HG0.out hb310)).mono ?_; rintro e w11 ⟨rfl, b11⟩)
  have hb311 := ch_trans hb310 b11
  have HG11 : Hid (StmtsG w11 (w4.heap.size + 1) (.slice a1 n1 e1) (inL t.parts)) := StmtsG.on HG10.out b11
  have hz11 : w4.heap.size + 1 ≤ w11.heap.size := Nat.le_trans hz10 b11.size
  clear b11 hb310 HG10 hz10
  obtain ⟨ps, hp1, hp2, hp3⟩ := HG11.out.pl HLEN.out
  refine (markS hp1 hp2 hp3 hz11).mono ?_
  rintro e w12 ⟨rfl, hT, hh⟩
  have HH : Hid (HeldS w12 (.slice a1 n1 e1) ps) := hh
  have hb312 : Below w3.heap.size w3 w12 := hb311.trans (hT.mono (by omega))
  have HHS : Hid (∀ u : World, HeldS u (.slice a1 n1 e1) ps → Calls Try.prog 23 #[.slice a1 n1 e1, .int .i64 1] u fun e w' => e = .returned (.int .i64 ((1 + ps.length : Nat) : Int)) ∧ Below u.heap.size u w') := fun u hu => heldS hu
  clear hT hh hb311 HG11 hz11
  generalize 1 + ps.length = M at HHS ⊢
  have hm0 : decide ((M : Int) < 0) = false := by simp
  have hmm : ((M : Int) != M) = false := by simp
  have hme : ((M : Int) == M) = true := by simp
  go_wp2_with fail
  refine (HHS.out _ HH.out).mono ?_
  rintro e w13 ⟨rfl, b13⟩
  have hb313 := ch_trans hb312 b13
  have HH13 : Hid (HeldS w13 (.slice a1 n1 e1) ps) := HeldS.on HH.out b13
  have HL13 := HL3.on hb313
  have hb13 := ch_trans hb3 hb313
  clear b13 hb312 HH
  obtain ⟨c0, c1, c2⟩ := HL13.three
  go_wp2_with fail
  refine (HTO.out _ hb13).mono ?_
  rintro e w14 ⟨a14, c14, rfl, b14, hy, _⟩
  have HY14 : Hid (PartsX w14 (.slice a14 t.parts.length c14) t.parts) := hy
  clear hy c0 c1 c2 HL13
  go_wp2_with fail
  refine (HIM.out _ _ HY14.out).mono ?_
  rintro e w15 ⟨kv2, rfl, b15, hg2⟩
  obtain ⟨a3, n3, e3, rfl⟩ := StmtsG.lit3 hg2
  have HG2 : Hid (StmtsV w15 (.slice a3 n3 e3) (inL t.parts)) := StmtsG.read hg2
  have h1315 := ch_trans b14 b15
  clear hg2 b14 b15 HY14
  go_wp2_with fail
  refine (eqStmtS_same _ _ (inL t.parts) _ HG2.out (StmtsV.on HG0.out (ch_trans hb313 h1315))).mono ?_
  rintro e w16 ⟨rfl, b16⟩
  have h1316 := ch_trans h1315 b16
  clear b16 h1315 HG2
  go_wp2_with fail
  refine (HHS.out _ (HeldS.on HH13.out h1316)).mono ?_
  rintro e w17 ⟨rfl, b17⟩
  have hb17 := ch_trans hb13 (ch_trans h1316 b17)
  clear b17 h1316
  go_wp2
  go_ret
  exact ⟨rfl, hb17⟩

theorem own : ownKnob Try.prog.godebug = none := by kernel_rfl
theorem laidOut : laidOutB Try.prog = true := by kernel_rfl

set_option maxRecDepth 100000 in
theorem lifted (os : Os) (started : os.Started) (H : Type) (enc : TypeId × Value → H) :
    ReturnsInHanded {} Try.checked os 4 .any (Rows.fnExactStmtsInSpec.pre6 enc Try.prog Try.f4 Rows.fnExactStmtsInRow.domain false) (Rows.fnExactStmtsInSpec.post enc Try.prog Try.f4 false true false false) := by
  refine returnsInHanded_of_change (C := Try.checked) own started (by kernel_rfl) Try.func4
    (ChangeSpec.witness6 (enc := enc) (C := Try.checked) false ⟨#[], #[.agg #[.int .i64 0, .int .i64 0, .slice none 0 0]], []⟩ 8 (by kernel_rfl) (by kernel_rfl) (by kernel_rfl) (by kernel_rfl)) ?_
  intro W base args ds gs before hval0 hW _ _
  have hval : ∀ (j : Nat) t v, Try.f4.params[j]? = some t → args[j]? = some v → Value.okWide Try.prog W .any base t v := hval0
  have hW' := hW
  obtain ⟨p, q, hA0, hV, rfl, _, _⟩ := hW
  have hA : DataW.TrodAll enc Try.prog W 0 (fun _ => true) true Try.f4.params.toList args.toList ds p := hA0
  rw [Try.params4] at hA hval
  obtain ⟨v0, d0, rfl, rfl, h0⟩ := trodAll_one hA
  obtain ⟨rfl, rfl⟩ := trodVars_none hV
  have h0k := h0
  obtain ⟨cs, rfl, hsz⟩ := okWide_struct Try.underlying46 (hval 0 46 v0 rfl rfl)
  obtain ⟨k, hk⟩ := h0
  obtain ⟨x, t, hc, hx, hf⟩ := open_batch hk
  have hc' : cs = x := by apply Array.toList_inj.1; simpa [Value.cells] using hc
  subst hc'
  clear hA0 hval0
  simp only [List.append_nil] at hW'
  have hlt : ∀ x ∈ p, x.block < W.heap.size := fun x hx => by simpa using hW'.lt x (by simpa using hx)
  refine (walk cs t W hx hf).mono fun e W' ⟨he, bel⟩ => ?_
  subst he
  exact ⟨_, rfl, _, _, _, [], _, [], hW', trodAll_mk1 (shut_bool Try.underlying4 _), trodAll_mk1 (Below.trod laidOut (by kernel_rfl) (of_decide_eq_true (by kernel_rfl)) h0k bel hlt), rfl, bel.frame _, fun h => by cases h⟩

theorem over : Rows.FnExactStmtsInSaid :=
  OpenClaim.holds_of_wide 4 Try.f4 rfl rfl rfl rfl rfl rfl rfl ⟨rfl, rfl, rfl, rfl, rfl⟩ rfl rfl rfl rfl rfl (by kernel_rfl) Try.func4 (by kernel_rfl)
    (of_decide_eq_true (by kernel_rfl)) (by unfold Func.isWrapper; first | (rw [if_pos (by decide +kernel)]; kernel_rfl) | (rw [if_neg (by decide +kernel)]; exact ⟨rfl, rfl⟩))
    (fun os started H enc _ => lifted os started H enc)
end Go.Proofs.Ytbjnonondnemhab.lawStmtsIn
namespace Go.Proofs.Ytbjnonondnemhab
theorem fnExactStmtsIn_holds : Rows.FnExactStmtsInSaid := lawStmtsIn.over
#print axioms fnExactStmtsIn_holds
end Go.Proofs.Ytbjnonondnemhab
