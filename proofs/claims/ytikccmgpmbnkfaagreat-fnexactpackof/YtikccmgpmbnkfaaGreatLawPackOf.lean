/- For every batch the landed PackOf answers as the given one does, leaves the batch as it was, and its answer owns its memory: 'FnExactPackOf' returns true at every argument, with no condition; its argument reads afterwards as it read before. -/
import Derived.Test.YtikccmgpmbnkfaaGreatPkg
import Derived.Test.YtikccmgpmbnkfaaGreatBtm
import Derived.Test.YtikccmgpmbnkfaaGreatBtm
import Derived.Test.YtikccmgpmbnkfaaGreatRv
namespace Go.Proofs.YtikccmgpmbnkfaaGreat.lawPackOf
open Go.ChangeShapes Go.WideShapes Go.ChangeAt Go.RowKit

theorem turnL {w w' : World} {b : Nat} {x : Array Value} (h : Loc w b x) {S : Nat → Prop} (k : Turns S w w') (hb : ¬ S b) : Loc w' b x := fun j hj => k.cell (p := ⟨b, j, none⟩) hb (h j hj)
theorem batL_length {t : Btc} (h : t.right) : (batL t).length ≤ 160003 := by
  have := batB_length h
  rw [batL, List.length_append, numL_length]; omega

set_option maxRecDepth 100000 in
set_option maxHeartbeats 4000000 in
theorem walk (x : Array Value) (t : Btc) (w : World) (hx : BatV w x t) (hf : t.fit) :
    Calls Tryz.prog 3 #[.agg x] w fun e w' => e = .returned (.bool true) ∧ Below w.heap.size w w' := by
  obtain ⟨a, p, rfl, hx⟩ := hx
  have HX : Hid (BatV w #[.int .i64 t.lsn, .int .i64 t.prev, .slice a t.parts.length p] t) := ⟨_, _, rfl, hx⟩
  have HF : Hid t.fit := hf
  have HL := Loc.new w #[.int .i64 t.lsn, .int .i64 t.prev, .slice a t.parts.length p] 24
  have hbv : Below w.heap.size w (w.alloc (.cells #[.int .i64 t.lsn, .int .i64 t.prev, .slice a t.parts.length p] 24)) := (by repeat (first | with_reducible exact Below.refl _ _ | with_reducible assumption | with_reducible refine ch_alloc ?_ _ | with_reducible refine Below.drew ?_ | with_reducible refine below_draws _ ?_ | (with_reducible refine Below.setCell ?_ ?_ _; rotate_left; focus (first | with_reducible exact Nat.le_refl _ | (simp; done) | (simp; omega) | (simp at *; omega))) | with_reducible refine ch_trans ?_ (by with_reducible assumption)))
  obtain ⟨q, L, hq⟩ : ∃ (q : Bool) (L : List UInt8), (q = true ∧ t.right ∧ L = batL t) ∨ (q = false ∧ ¬ t.right ∧ L = []) := by
    by_cases h : t.right
    · exact ⟨true, _, Or.inl ⟨rfl, h, rfl⟩⟩
    · exact ⟨false, _, Or.inr ⟨rfl, h, rfl⟩⟩
  have hLl : L.length ≤ 1048576 := by
    rcases hq with ⟨_, h, rfl⟩ | ⟨_, _, rfl⟩
    · have := batL_length h; omega
    · simp
  have hqq : (q != q) = false := by simp
  have hkl' : (L.map byX).length ≤ 2000000 := by simp; omega
  have HSP : Hid (∀ (u : World) (y : Value), PartsV u y t.parts → Calls Tryz.prog 7 #[.agg #[.int .i64 t.lsn, .int .i64 t.prev, y]] u fun e w' => ∃ v', e = .returned (.tuple #[.agg #[v'], .bool q]) ∧ Below u.heap.size u w' ∧ Got w' u.heap.size 5 1 v' (L.map byX)) := fun u y hy => by
    obtain ⟨a', p', rfl, _, _, hy'⟩ := hy.lit
    exact packOf_spec _ t u ⟨_, _, rfl, hy'⟩ hf q L hq
  have HIM : Hid (∀ (u : World) (y : Value), PartsV u y t.parts → Calls Tryz.prog 9 #[.agg #[.int .i64 t.lsn, .int .i64 t.prev, y]] u fun e w' => ∃ v', e = .returned (.tuple #[.agg #[v'], .bool q]) ∧ Below u.heap.size u w' ∧ Got w' u.heap.size 5 1 v' (L.map byX)) := fun u y hy => by
    obtain ⟨a', p', rfl, _, _, hy'⟩ := hy.lit
    exact packOf_impl _ t u ⟨_, _, rfl, hy'⟩ hf q L hq
  clear hx hf hq
  go_enter Tryz.func3, Tryz.ntmps3
  go_wp2_with fail
  refine (szBatch_any _ t _ _ (HX.out.on hbv) HF.out (by omega) (by omega)).mono ?_
  rintro e w1 ⟨r, rfl, b1, hr⟩
  have HL1 := HL.on b1
  have hb1 := ch_trans hbv b1
  clear b1 hbv HL
  obtain ⟨c0, c1, c2⟩ := HL1.three
  rcases hr with rfl | ⟨r0, r1, few⟩
  · go_wp2
    go_ret
    exact ⟨rfl, hb1⟩
  have FEW : Hid t.few := few
  have HTO : Hid (∀ u : World, Below w.heap.size w u → Calls Tryz.prog 8 #[.agg #[.int .i64 t.lsn, .int .i64 t.prev, .slice a t.parts.length p]] u fun e w' => ∃ a2 q2, e = .returned (.agg #[.int .i64 t.lsn, .int .i64 t.prev, .slice a2 t.parts.length q2]) ∧ Below u.heap.size u w' ∧ PartsV w' (.slice a2 t.parts.length q2) t.parts ∧ New PartsS u.heap.size w' (.slice a2 t.parts.length q2)) := fun u hu => (toBatch_full _ t u (HX.out.on hu) FEW.out).mono fun e w' ⟨y, h1, h2, h3⟩ => by
    obtain ⟨a2, q2, rfl, _⟩ := h3.out.1.lit
    exact ⟨a2, q2, h1, h2, h3.out.1, h3.out.2⟩
  clear few HX HF
  go_wp2_with fail
  refine (HTO.out _ hb1).mono ?_
  rintro e w2 ⟨a2, q2, rfl, b2, hy, _⟩
  have HY2 : Hid (PartsV w2 (.slice a2 t.parts.length q2) t.parts) := hy
  have hb2 := ch_trans hb1 b2
  have HL2 := HL1.on b2
  clear hy b2 hb1 HL1 c0 c1 c2
  go_wp2_with fail
  refine (HSP.out _ _ HY2.out).mono ?_
  rintro e w3 ⟨v0, rfl, b3, hg0⟩
  obtain ⟨a0, n0, e0, rfl, hg0⟩ := hg0.lit2
  have HG0 : Hid (BytesV w3 (.slice a0 n0 e0) L) := hg0.bytes
  have hb3 := ch_trans hb2 b3
  have HL3 := HL2.on b3
  have HN3 := Loc.new w3 #[.slice a0 n0 e0] 28
  have hv3 : Below w3.heap.size w3 (w3.alloc (.cells #[.slice a0 n0 e0] 28)) := (by repeat (first | with_reducible exact Below.refl _ _ | with_reducible assumption | with_reducible refine ch_alloc ?_ _ | with_reducible refine Below.drew ?_ | with_reducible refine below_draws _ ?_ | (with_reducible refine Below.setCell ?_ ?_ _; rotate_left; focus (first | with_reducible exact Nat.le_refl _ | (simp; done) | (simp; omega) | (simp at *; omega))) | with_reducible refine ch_trans ?_ (by with_reducible assumption)))
  clear hg0 b3 hb2 HL2 HY2
  obtain ⟨c0, c1, c2⟩ := (HL3.on hv3).three
  have s0 := HN3.one
  go_wp2_with fail
  refine (HTO.out _ (ch_trans hb3 hv3)).mono ?_
  rintro e w4 ⟨a4, c4, rfl, b4, hy, hn⟩
  have HX4 : Hid (PartsV w4 (.slice a4 t.parts.length c4) t.parts) := hy
  have HN4 := Loc.new w4 #[.int .i64 t.lsn, .int .i64 t.prev, .slice a4 t.parts.length c4] 33
  obtain ⟨S, hSd⟩ : ∃ S : Nat → Prop, S = fun c => w3.heap.size + 1 ≤ c ∧ c < w4.heap.size := ⟨_, rfl⟩
  have HSH : Hid (PartsS S w4 (.slice a4 t.parts.length c4)) := by
    subst hSd
    have h := hn
    rw [show (w3.alloc (.cells #[.slice a0 n0 e0] 28)).heap.size = w3.heap.size + 1 by simp] at h
    exact h
  have HSD : Hid (∀ c, S c → w3.heap.size + 1 ≤ c ∧ c < w4.heap.size) := by subst hSd; exact fun c h => h
  have hs34 : w3.heap.size + 1 ≤ w4.heap.size := by have := b4.size; simpa using this
  have hv4 : Below w4.heap.size w4 (w4.alloc (.cells #[.int .i64 t.lsn, .int .i64 t.prev, .slice a4 t.parts.length c4] 33)) := (by repeat (first | with_reducible exact Below.refl _ _ | with_reducible assumption | with_reducible refine ch_alloc ?_ _ | with_reducible refine Below.drew ?_ | with_reducible refine below_draws _ ?_ | (with_reducible refine Below.setCell ?_ ?_ _; rotate_left; focus (first | with_reducible exact Nat.le_refl _ | (simp; done) | (simp; omega) | (simp at *; omega))) | with_reducible refine ch_trans ?_ (by with_reducible assumption)))
  have hz4 : (w4.alloc (.cells #[.int .i64 t.lsn, .int .i64 t.prev, .slice a4 t.parts.length c4] 33)).heap.size = w4.heap.size + 1 := by simp
  have hb34 := ch_trans hv3 (ch_trans b4 hv4)
  have HM3 := HN3.on (ch_trans b4 hv4)
  clear hy hn hSd b4 c0 c1 c2 s0 HN3 hv3
  go_wp2_with fail
  generalize w4.alloc (.cells #[.int .i64 t.lsn, .int .i64 t.prev, .slice a4 t.parts.length c4] 33) = u4 at HN4 hv4 hz4 hb34 HM3 ⊢
  refine (HIM.out _ _ (HX4.out.on hv4)).mono ?_
  rintro e w5 ⟨v1, rfl, b5, hg1⟩
  obtain ⟨a1, n1, e1, rfl, hg1⟩ := hg1.lit2
  rw [hz4] at hg1
  have HG1 : Hid (Got w5 (w4.heap.size + 1) 5 1 (.slice a1 n1 e1) (L.map byX)) := hg1
  have HOW : Hid (∀ c, (Value.slice a1 n1 e1).ownBlock = some c → c < w5.heap.size) := fun c hc => by
    obtain ⟨cur, h⟩ := hg1.tag hc
    exact (Array.getElem?_eq_some_iff.1 h).1
  have HN5 := HN4.on b5
  have HM5 := HM3.on b5
  have hb35 := ch_trans hb34 b5
  have HP5 := Loc.new w5 #[.slice a1 n1 e1] 28
  have hv5 : Below w5.heap.size w5 (w5.alloc (.cells #[.slice a1 n1 e1] 28)) := (by repeat (first | with_reducible exact Below.refl _ _ | with_reducible assumption | with_reducible refine ch_alloc ?_ _ | with_reducible refine Below.drew ?_ | with_reducible refine below_draws _ ?_ | (with_reducible refine Below.setCell ?_ ?_ _; rotate_left; focus (first | with_reducible exact Nat.le_refl _ | (simp; done) | (simp; omega) | (simp at *; omega))) | with_reducible refine ch_trans ?_ (by with_reducible assumption)))
  have hz5 : w4.heap.size + 1 ≤ w5.heap.size := by rw [← hz4]; exact b5.size
  have hv45 := ch_trans hv4 b5
  clear hg1 b5 hb34 hv4 HN4 hz4 HM3
  have s0 := (HM5.on hv5).one
  have t0 := HP5.one
  go_wp2_with fail
  generalize w5.alloc (.cells #[.slice a1 n1 e1] 28) = u5 at HP5 hv5 s0 t0 ⊢
  refine (eqPack_same _ _ L _ (HG1.out.on hv5).bytes (HG0.out.on (ch_trans hb35 hv5))).mono ?_
  rintro e w6 ⟨rfl, b6⟩
  have h56 := ch_trans hv5 b6
  have HN6 := HN5.on h56
  have HM6 := HM5.on h56
  have HP6 := HP5.on b6
  have hb36 := ch_trans hb35 h56
  have HL6 := HL3.on hb36
  have hb6 := ch_trans hb3 hb36
  have hv6 := ch_trans hv45 h56
  have HG6 : Hid (Got w6 (w4.heap.size + 1) 5 1 (.slice a1 n1 e1) (L.map byX)) := HG1.out.on h56
  have hz6 : w4.heap.size + 1 ≤ w6.heap.size := Nat.le_trans hz5 h56.size
  clear b6 h56 HN5 HM5 HP5 hb35 hv5 s0 t0 hv45 HG1
  obtain ⟨c0, c1, c2⟩ := HL6.three
  obtain ⟨i0, i1, i2⟩ := HN6.three
  go_wp2_with fail
  refine region_plan [([0, 1], 2), ([], 3)] [4] (by kernel_rfl) (by kernel_rfl) ?_
  have hgd := Grows.drawn w6
  generalize { w6 with drawn := w6.drawn + 1 } = wd at hgd ⊢
  have hbd := ch_trans hb6 hgd
  have HLd := HL6.on hgd
  have HNd := HN6.on hgd
  clear c0 c1 c2 i0 i1 i2
  refine plan_on (by simp only [pick, List.getElem?_toArray, List.getElem?_cons_succ, List.getElem?_cons_zero]; rfl) ?_
  repeat (go_big_quiet_step ((intro hu; obtain ⟨c0, c1, c2⟩ := (HLd.on hu).three; obtain ⟨i0, i1, i2⟩ := (HNd.on hu).three; go_simp; (try exact rfl))))
  refine wpQuiet_nil ?_
  refine plan_call rfl rfl (fun K hK => ?_)
  go_simp
  go_at_call 8
  refine (HTO.out _ hbd).mono ?_
  rintro e w7 ⟨a7, q7, rfl, b7, hy, _⟩
  refine ⟨_, rfl, hK _ _ ⟨b7, ?_⟩⟩
  have HYT : Hid (PartsV w7 (.slice a7 t.parts.length q7) t.parts) := hy
  have hg67 := ch_trans hgd b7
  clear hK K hy
  refine plan_on rfl ?_
  refine wpQuiet_nil ?_
  refine plan_call rfl rfl (fun K hK => ?_)
  go_simp
  go_at_call 11
  refine (eqBatch_same _ _ t _ ⟨_, _, rfl, HX4.out.on (ch_trans hv6 hg67)⟩ ⟨_, _, rfl, HYT.out⟩).mono ?_
  rintro e w9 ⟨rfl, b9⟩
  refine ⟨_, rfl, hK _ _ ⟨b9, ?_⟩⟩
  have h69 := ch_trans hg67 b9
  have HN9 := HN6.on h69
  have HM9 := HM6.on h69
  have HP9 := HP6.on h69
  have hb39 := ch_trans hb36 h69
  have hv9 := ch_trans hv6 h69
  have HG9 : Hid (Got w9 (w4.heap.size + 1) 5 1 (.slice a1 n1 e1) (L.map byX)) := HG6.out.on h69
  have hz9 : w4.heap.size + 1 ≤ w9.heap.size := Nat.le_trans hz6 h69.size
  have HSH9 : Hid (PartsS S w9 (.slice a4 t.parts.length c4)) := PartsS.good.holds S _ _ _ (fun c _ hc => hv9.block c hc) HSH.out
  clear hK K b9 hg67 hgd hbd b7 HYT h69 HN6 HM6 HP6 hb36 hv6 HG6 hz6 hb6 HSH HX4 HL6 HLd HNd
  refine plan_end (by simp only [pick, List.getElem?_toArray, List.getElem?_cons_succ, List.getElem?_cons_zero]; rfl) ?_
  repeat (go_big_quiet_step ((intro hu; go_simp; (try exact rfl))))
  refine wpQuiet_nil ?_
  obtain ⟨i0, i1, i2⟩ := HN9.three
  go_wp2_with fail
  refine (markBatch_shape S _ _ _ 1 _ HSH9.out (by omega)).mono ?_
  rintro e w10 ⟨K, rfl, _, hM⟩
  have hb310 : Below w3.heap.size w3 w10 := hb39.trans (hM.turns.toBelow (fun c hc => by have := (HSD.out c hc).1; omega) (by have := hb39.size; omega))
  have HG10 : Hid (Got w10 (w4.heap.size + 1) 5 1 (.slice a1 n1 e1) (L.map byX)) := HG9.out.turns hM.turns fun c hc => by have := (HSD.out c hc).2; omega
  have hz10 : w4.heap.size + 1 ≤ w10.heap.size := Nat.le_trans hz9 hM.turns.size
  have HM10 : Loc w10 _ _ := turnL HM9 hM.turns (fun hc => by have := (HSD.out _ hc).1; omega)
  have HP10 : Loc w10 _ _ := turnL HP9 hM.turns (fun hc => by have := (HSD.out _ hc).2; omega)
  have hk0 : decide ((K : Int) < 0) = false := by simp
  clear hM HSH9 HG9 hz9 hb39 hv9 i0 i1 i2 HN9 HM9 HP9
  have s0 := HM10.one
  have t0 := HP10.one
  go_wp2_with (go_at_call 10; refine (eqPack_same _ _ L _ HG10.out.bytes (HG0.out.on hb310)).mono ?_; rintro e w11 ⟨rfl, b11⟩; have t0 := (HP10.on b11).one)
  have HG11 : Hid (Got w11 (w4.heap.size + 1) 5 1 (.slice a1 n1 e1) (L.map byX)) := HG10.out.on b11
  have hb311 := ch_trans hb310 b11
  have HM11 := HM10.on b11
  have HP11 := HP10.on b11
  have hz11 : w4.heap.size + 1 ≤ w11.heap.size := Nat.le_trans hz10 b11.size
  clear b11 HG10 hb310 HM10 HP10 hz10 s0
  have hva11 : Below w11.heap.size w11 (w11.alloc (.cells #[.slice a1 n1 e1] 28)) := (by repeat (first | with_reducible exact Below.refl _ _ | with_reducible assumption | with_reducible refine ch_alloc ?_ _ | with_reducible refine Below.drew ?_ | with_reducible refine below_draws _ ?_ | (with_reducible refine Below.setCell ?_ ?_ _; rotate_left; focus (first | with_reducible exact Nat.le_refl _ | (simp; done) | (simp; omega) | (simp at *; omega))) | with_reducible refine ch_trans ?_ (by with_reducible assumption)))
  have hmk := markPack_of (R := fun w' => Turns (fun c => (Value.slice a1 n1 e1).ownBlock = some c) (w11.alloc (.cells #[.slice a1 n1 e1] 28)) w' ∧ HeldL w' (.slice a1 n1 e1) 1 (markY 1) (L.map byX).length) a1 n1 e1 1 (1 + (L.map byX).length) w11 ((markByteS_got (HG11.out.on hva11) hkl' 1 (by omega)).mono fun e w' ⟨h1, h2, h3⟩ => ⟨h1, h2, h3⟩)
  have HMK : Hid (Calls Tryz.prog 13 #[.agg #[.slice a1 n1 e1], .int .i64 1] w11 fun e w' => e = .returned (.int .i64 ((1 + (L.map byX).length : Nat) : Int)) ∧ Turns (fun c => (Value.slice a1 n1 e1).ownBlock = some c) (w11.alloc (.cells #[.slice a1 n1 e1] 28)) w' ∧ HeldL w' (.slice a1 n1 e1) 1 (markY 1) (L.map byX).length) := hmk
  have HHS : Hid (∀ u : World, HeldL u (.slice a1 n1 e1) 1 (markY 1) (L.map byX).length → Calls Tryz.prog 14 #[.agg #[.slice a1 n1 e1], .int .i64 1] u fun e w' => e = .returned (.int .i64 ((1 + (L.map byX).length : Nat) : Int)) ∧ Below u.heap.size u w') := fun u hu => heldPack_of a1 n1 e1 1 _ u ((heldByteS_held (k := 1) (hu.on (ch_alloc (Below.refl _ _) _)) hkl' (by omega)).mono fun e w' ⟨h1, h2⟩ => ⟨h1, ((ch_alloc (Below.refl _ _) _).trans (h2.mono (by simp)))⟩)
  clear hmk
  refine HMK.out.mono ?_
  rintro e w12 ⟨rfl, hT, hheld⟩
  have HH : Hid (HeldL w12 (.slice a1 n1 e1) 1 (markY 1) (L.map byX).length) := hheld
  have hb312 : Below w3.heap.size w3 w12 := hb311.trans ((hva11.mono hb311.size).trans (hT.toBelow (fun c hc => by have := HG11.out.own hc; omega) (by simp; have := hb311.size; omega)))
  have HP12 : Loc w12 _ _ := turnL (HP11.on hva11) hT (fun hc => by have := HOW.out _ hc; omega)
  have HM12 : Loc w12 _ _ := turnL (HM11.on hva11) hT (fun hc => by have := HG11.out.own hc; omega)
  clear hT hheld hb311 HG11 hz11 HM11 HP11 HMK
  generalize 1 + (L.map byX).length = M at HHS ⊢
  have hm0 : decide ((M : Int) < 0) = false := by simp
  have hmm : ((M : Int) != M) = false := by simp
  have t0 := HP12.one
  go_wp2_with fail
  refine (HHS.out _ HH.out).mono ?_
  rintro e w13 ⟨rfl, b13⟩
  have hb313 := ch_trans hb312 b13
  have HH13 : Hid (HeldL w13 (.slice a1 n1 e1) 1 (markY 1) (L.map byX).length) := HH.out.on b13
  have HP13 := HP12.on b13
  have HL13 := HL3.on hb313
  have HM13 := HM12.on b13
  have hb13 := ch_trans hb3 hb313
  clear b13 hb312 HH t0 HP12 HM12
  obtain ⟨c0, c1, c2⟩ := HL13.three
  go_wp2_with fail
  refine (HTO.out _ hb13).mono ?_
  rintro e w14 ⟨a14, c14, rfl, b14, hy, _⟩
  have HY14 : Hid (PartsV w14 (.slice a14 t.parts.length c14) t.parts) := hy
  clear hy c0 c1 c2 HL13
  go_wp2_with fail
  refine (HIM.out _ _ HY14.out).mono ?_
  rintro e w15 ⟨v2, rfl, b15, hg2⟩
  obtain ⟨a2, n2, e2, rfl, hg2⟩ := hg2.lit2
  have HG2 : Hid (BytesV w15 (.slice a2 n2 e2) L) := hg2.bytes
  have h1315 := ch_trans b14 b15
  have hv15 : Below w15.heap.size w15 (w15.alloc (.cells #[.slice a2 n2 e2] 28)) := (by repeat (first | with_reducible exact Below.refl _ _ | with_reducible assumption | with_reducible refine ch_alloc ?_ _ | with_reducible refine Below.drew ?_ | with_reducible refine below_draws _ ?_ | (with_reducible refine Below.setCell ?_ ?_ _; rotate_left; focus (first | with_reducible exact Nat.le_refl _ | (simp; done) | (simp; omega) | (simp at *; omega))) | with_reducible refine ch_trans ?_ (by with_reducible assumption)))
  have s0 := (HM13.on (ch_trans h1315 hv15)).one
  have t0 := (Loc.new w15 #[.slice a2 n2 e2] 28).one
  have HP15 := HP13.on (ch_trans h1315 hv15)
  have h1316 := ch_trans h1315 hv15
  clear hg2 b14 b15 HY14 h1315 HP13 HM13
  go_wp2_with fail
  generalize w15.alloc (.cells #[.slice a2 n2 e2] 28) = u15 at hv15 s0 t0 HP15 h1316 ⊢
  refine (eqPack_same _ _ L _ (HG2.out.on hv15) (HG0.out.on (ch_trans hb313 h1316))).mono ?_
  rintro e w16 ⟨rfl, b16⟩
  have h16 := ch_trans h1316 b16
  have r0 := (HP15.on b16).one
  clear b16 h1316 s0 t0 hv15
  go_wp2_with fail
  refine (HHS.out _ (HH13.out.on h16)).mono ?_
  rintro e w17 ⟨rfl, b17⟩
  have hb17 := ch_trans hb13 (ch_trans h16 b17)
  clear b17 h16 r0
  go_wp2
  go_ret
  exact ⟨rfl, hb17⟩

theorem own : ownKnob Tryz.prog.godebug = none := by kernel_rfl
theorem laidOut : laidOutB Tryz.prog = true := by kernel_rfl

set_option maxRecDepth 100000 in
theorem lifted (os : Os) (started : os.Started) (H : Type) (enc : TypeId × Value → H) :
    ReturnsInHanded {} Tryz.checked os 3 .any (Rows.fnExactPackOfSpec.pre6 enc Tryz.prog Tryz.f3 Rows.fnExactPackOfRow.domain false) (Rows.fnExactPackOfSpec.post enc Tryz.prog Tryz.f3 false true false false) := by
  refine returnsInHanded_of_change (C := Tryz.checked) own started (by kernel_rfl) Tryz.func3
    (ChangeSpec.witness6 (enc := enc) (C := Tryz.checked) false ⟨#[], #[.agg #[.int .i64 0, .int .i64 0, .slice none 0 0]], []⟩ 8 (by kernel_rfl) (by kernel_rfl) (by kernel_rfl) (by kernel_rfl)) ?_
  intro W base args ds gs before hval0 hW _ _
  have hval : ∀ (j : Nat) t v, Tryz.f3.params[j]? = some t → args[j]? = some v → Value.okWide Tryz.prog W .any base t v := hval0
  have hW' := hW
  obtain ⟨p, q, hA0, hV, rfl, _, _⟩ := hW
  have hA : DataW.TrodAll enc Tryz.prog W 0 (fun _ => true) true Tryz.f3.params.toList args.toList ds p := hA0
  rw [Tryz.params3] at hA hval
  obtain ⟨v0, d0, rfl, rfl, h0⟩ := trodAll_one hA
  obtain ⟨rfl, rfl⟩ := trodVars_none hV
  have h0k := h0
  obtain ⟨cs, rfl, hsz⟩ := okWide_struct Tryz.underlying24 (hval 0 24 v0 rfl rfl)
  obtain ⟨k, hk⟩ := h0
  obtain ⟨x, t, hc, hx, hf⟩ := open_batch hk
  have hc' : cs = x := by apply Array.toList_inj.1; simpa [Value.cells] using hc
  subst hc'
  clear hA0 hval0
  simp only [List.append_nil] at hW'
  have hlt : ∀ x ∈ p, x.block < W.heap.size := fun x hx => by simpa using hW'.lt x (by simpa using hx)
  refine (walk cs t W hx hf).mono fun e W' ⟨he, bel⟩ => ?_
  subst he
  exact ⟨_, rfl, _, _, _, [], _, [], hW', trodAll_mk1 (shut_bool Tryz.underlying4 _), trodAll_mk1 (Below.trod laidOut (by kernel_rfl) (of_decide_eq_true (by kernel_rfl)) h0k bel hlt), rfl, bel.frame _, fun h => by cases h⟩

theorem over : Rows.FnExactPackOfSaid :=
  OpenClaim.holds_of_wide 3 Tryz.f3 rfl rfl rfl rfl rfl rfl rfl ⟨rfl, rfl, rfl, rfl, rfl⟩ rfl rfl rfl rfl rfl (by kernel_rfl) Tryz.func3 (by kernel_rfl)
    (of_decide_eq_true (by kernel_rfl)) (by unfold Func.isWrapper; first | (rw [if_pos (by decide +kernel)]; kernel_rfl) | (rw [if_neg (by decide +kernel)]; exact ⟨rfl, rfl⟩))
    (fun os started H enc _ => lifted os started H enc)
end Go.Proofs.YtikccmgpmbnkfaaGreat.lawPackOf
namespace Go.Proofs.YtikccmgpmbnkfaaGreat
theorem fnExactPackOf_holds : Rows.FnExactPackOfSaid := lawPackOf.over
#print axioms fnExactPackOf_holds
end Go.Proofs.YtikccmgpmbnkfaaGreat
