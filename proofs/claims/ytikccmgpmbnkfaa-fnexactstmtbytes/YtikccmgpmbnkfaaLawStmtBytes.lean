/- For every statement the landed StmtBytes answers as the given one does, leaves the statement as it was, and its answer shares no memory: 'FnExactStmtBytes' returns true at every argument, with no condition; its argument reads afterwards as it read before. -/
import Derived.Test.YtikccmgpmbnkfaaZa
import Derived.Test.YtikccmgpmbnkfaaOpenSt
import Derived.Test.YtikccmgpmbnkfaaOpenSt
import Derived.Test.YtikccmgpmbnkfaaOrd
namespace Go.Proofs.Ytikccmgpmbnkfaa.lawStmtBytes
open Go.ChangeShapes Go.WideShapes Go.ChangeAt Go.RowKit

set_option maxRecDepth 100000 in
set_option maxHeartbeats 2000000 in
theorem walk (x : Array Value) (t : Sc) (w : World) (hx : StmtV w x t) (hf : t.fit) :
    Calls Try.prog 5 #[.agg x] w fun e w' => e = .returned (.bool true) ∧ Below w.heap.size w w' := by
  obtain ⟨ka, kp, ra, rp, ca, cp, oa, op, e0, _⟩ := hx.lit
  simp only [Sc.cells] at e0
  subst e0
  have HX : Hid (StmtV w #[.int .i64 t.kind, .string t.table, .slice ka t.key.length kp, .slice ra t.row.length rp, .int .i64 t.ddl.kind, .string t.ddl.table, .slice ca t.ddl.cols.length cp, .slice oa t.ddl.keys.length op, .string t.ddl.name, .string t.ddl.to] t) := hx
  have HF : Hid t.fit := hf
  have HL := Loc.new w #[.int .i64 t.kind, .string t.table, .slice ka t.key.length kp, .slice ra t.row.length rp, .int .i64 t.ddl.kind, .string t.ddl.table, .slice ca t.ddl.cols.length cp, .slice oa t.ddl.keys.length op, .string t.ddl.name, .string t.ddl.to] 51
  have hbv : Below w.heap.size w (w.alloc (.cells #[.int .i64 t.kind, .string t.table, .slice ka t.key.length kp, .slice ra t.row.length rp, .int .i64 t.ddl.kind, .string t.ddl.table, .slice ca t.ddl.cols.length cp, .slice oa t.ddl.keys.length op, .string t.ddl.name, .string t.ddl.to] 51)) := (by repeat (first | with_reducible exact Below.refl _ _ | with_reducible assumption | with_reducible refine ch_alloc ?_ _ | with_reducible refine Below.drew ?_ | with_reducible refine below_draws _ ?_ | (with_reducible refine Below.setCell ?_ ?_ _; rotate_left; focus (first | with_reducible exact Nat.le_refl _ | (simp; done) | (simp; omega) | (simp at *; omega))) | with_reducible refine ch_trans ?_ (by with_reducible assumption)))
  obtain ⟨q, L, hq⟩ : ∃ (q : Bool) (L : List UInt8), (q = true ∧ t.right ∧ L = stmtL t) ∨ (q = false ∧ ¬ t.right ∧ L = []) := by
    by_cases h : t.right
    · exact ⟨true, _, Or.inl ⟨rfl, h, rfl⟩⟩
    · exact ⟨false, _, Or.inr ⟨rfl, h, rfl⟩⟩
  have hLl : L.length ≤ 2000 := by
    rcases hq with ⟨_, h, rfl⟩ | ⟨_, _, rfl⟩
    · exact stmtL_length h
    · simp
  have hqq : (q != q) = false := by simp
  have hkl' : (L.map byX).length ≤ 2000000 := by simp; omega
  have HSS : Hid (∀ (u : World) (y : Array Value), StmtV u y t → Calls Try.prog 19 #[.agg y] u fun e w' => ∃ v', e = .returned (.tuple #[v', .bool q]) ∧ Below u.heap.size u w' ∧ Got w' u.heap.size 5 1 v' (L.map byX)) := fun u y h => stmtBytes_spec y t u h hf q L hq
  have HSI : Hid (∀ (u : World) (y : Array Value), StmtV u y t → Calls Try.prog 21 #[.agg y] u fun e w' => ∃ v', e = .returned (.tuple #[v', .bool q]) ∧ Below u.heap.size u w' ∧ Got w' u.heap.size 5 1 v' (L.map byX)) := fun u y h => stmtBytes_impl y t u h hf q L hq
  clear hx hf hq
  go_enter Try.func5, Try.ntmps5
  go_wp2_with fail
  refine (szStmt_any _ t _ _ (HX.out.on hbv) HF.out (by omega) (by omega)).mono ?_
  rintro e w1 ⟨r, rfl, b1, hr⟩
  have HL1 := HL.on b1
  have hb1 := ch_trans hbv b1
  clear b1 hbv HL
  obtain ⟨c0, c1, c2, c3, c4, c5, c6, c7, c8, c9⟩ := HL1.ten
  rcases hr with rfl | ⟨r0, r1, few⟩
  · go_wp2
    go_ret
    exact ⟨rfl, hb1⟩
  have HTD : Hid (∀ u : World, Below w.heap.size w u → Calls Try.prog 20 #[.agg #[.int .i64 t.kind, .string t.table, .slice ka t.key.length kp, .slice ra t.row.length rp, .int .i64 t.ddl.kind, .string t.ddl.table, .slice ca t.ddl.cols.length cp, .slice oa t.ddl.keys.length op, .string t.ddl.name, .string t.ddl.to]] u fun e w' => ∃ y, e = .returned (.agg y) ∧ Below u.heap.size u w' ∧ Firm u.heap.size (fun u' => StmtN u.heap.size u' y t) w') := fun u hu => toStmt_full _ t u (HX.out.on hu) few
  clear few HX HF
  go_wp2_with fail
  refine (HTD.out _ hb1).mono ?_
  rintro e w2 ⟨y, rfl, b2, hy⟩
  have HY2 : Hid (StmtV w2 y t) := hy.out.stmt
  have hb2 := ch_trans hb1 b2
  have HL2 := HL1.on b2
  clear hy b2 hb1 HL1 c0 c1 c2 c3 c4 c5 c6 c7 c8 c9
  go_wp2_with fail
  refine (HSS.out _ _ HY2.out).mono ?_
  rintro e w3 ⟨v0, rfl, b3, hg0⟩
  obtain ⟨a0, n0, e0, rfl, hg0⟩ := hg0.lit2
  have HG0 : Hid (Got w3 w2.heap.size 5 1 (.slice a0 n0 e0) (L.map byX)) := hg0
  have hb3 := ch_trans hb2 b3
  have HL3 := HL2.on b3
  clear hg0 b3 hb2 HL2 HY2
  obtain ⟨c0, c1, c2, c3, c4, c5, c6, c7, c8, c9⟩ := HL3.ten
  go_wp2_with fail
  refine (HTD.out _ hb3).mono ?_
  rintro e w4 ⟨y, rfl, b4, hy⟩
  obtain ⟨k4, r4, cc4, o4, e4, hk4, hr4, hc4, ho4⟩ := hy.out
  obtain ⟨ka4, kp4, rfl, _⟩ := hk4.1.lit
  obtain ⟨ra4, rp4, rfl, _⟩ := hr4.1.lit
  obtain ⟨ca4, cp4, rfl, _⟩ := id hc4.1
  obtain ⟨oa4, op4, rfl, _⟩ := id ho4.1
  simp only [Sc.cells] at e4
  subst e4
  have HX4 : Hid (StmtV w4 #[.int .i64 t.kind, .string t.table, .slice ka4 t.key.length kp4, .slice ra4 t.row.length rp4, .int .i64 t.ddl.kind, .string t.ddl.table, .slice ca4 t.ddl.cols.length cp4, .slice oa4 t.ddl.keys.length op4, .string t.ddl.name, .string t.ddl.to] t) := hy.out.stmt
  have HN4 := Loc.new w4 #[.int .i64 t.kind, .string t.table, .slice ka4 t.key.length kp4, .slice ra4 t.row.length rp4, .int .i64 t.ddl.kind, .string t.ddl.table, .slice ca4 t.ddl.cols.length cp4, .slice oa4 t.ddl.keys.length op4, .string t.ddl.name, .string t.ddl.to] 62
  obtain ⟨S, hSd⟩ : ∃ S : Nat → Prop, S = fun c => w3.heap.size ≤ c ∧ c < w4.heap.size := ⟨_, rfl⟩
  have HSH : Hid (ValsS S w4 (.slice ka4 t.key.length kp4) ∧ ValsS S w4 (.slice ra4 t.row.length rp4) ∧ ColsS S w4 (.slice ca4 t.ddl.cols.length cp4) ∧ StrsS S w4 (.slice oa4 t.ddl.keys.length op4)) := by subst hSd; exact ⟨hk4.2, hr4.2, hc4.2, ho4.2⟩
  have HSD : Hid (∀ c, S c → w3.heap.size ≤ c ∧ c < w4.heap.size) := by subst hSd; exact fun c h => h
  have hs34 : w3.heap.size ≤ w4.heap.size := b4.size
  have hv4 : Below w4.heap.size w4 (w4.alloc (.cells #[.int .i64 t.kind, .string t.table, .slice ka4 t.key.length kp4, .slice ra4 t.row.length rp4, .int .i64 t.ddl.kind, .string t.ddl.table, .slice ca4 t.ddl.cols.length cp4, .slice oa4 t.ddl.keys.length op4, .string t.ddl.name, .string t.ddl.to] 62)) := (by repeat (first | with_reducible exact Below.refl _ _ | with_reducible assumption | with_reducible refine ch_alloc ?_ _ | with_reducible refine Below.drew ?_ | with_reducible refine below_draws _ ?_ | (with_reducible refine Below.setCell ?_ ?_ _; rotate_left; focus (first | with_reducible exact Nat.le_refl _ | (simp; done) | (simp; omega) | (simp at *; omega))) | with_reducible refine ch_trans ?_ (by with_reducible assumption)))
  have hz4 : (w4.alloc (.cells #[.int .i64 t.kind, .string t.table, .slice ka4 t.key.length kp4, .slice ra4 t.row.length rp4, .int .i64 t.ddl.kind, .string t.ddl.table, .slice ca4 t.ddl.cols.length cp4, .slice oa4 t.ddl.keys.length op4, .string t.ddl.name, .string t.ddl.to] 62)).heap.size = w4.heap.size + 1 := by simp
  have hb34 := ch_trans b4 hv4
  clear hy hk4 hr4 hc4 ho4 hSd c0 c1 c2 c3 c4 c5 c6 c7 c8 c9 b4
  go_wp2_with fail
  generalize w4.alloc (.cells #[.int .i64 t.kind, .string t.table, .slice ka4 t.key.length kp4, .slice ra4 t.row.length rp4, .int .i64 t.ddl.kind, .string t.ddl.table, .slice ca4 t.ddl.cols.length cp4, .slice oa4 t.ddl.keys.length op4, .string t.ddl.name, .string t.ddl.to] 62) = u4 at HN4 hv4 hz4 hb34 ⊢
  refine (HSI.out _ _ (HX4.out.on hv4)).mono ?_
  rintro e w5 ⟨v1, rfl, b5, hg1⟩
  obtain ⟨a1, n1, e1, rfl, hg1⟩ := hg1.lit2
  rw [hz4] at hg1
  have HG1 : Hid (Got w5 (w4.heap.size + 1) 5 1 (.slice a1 n1 e1) (L.map byX)) := hg1
  have HN5 := HN4.on b5
  have hb35 := ch_trans hb34 b5
  have hv5 := ch_trans hv4 b5
  have hz5 : w4.heap.size + 1 ≤ w5.heap.size := by rw [← hz4]; exact b5.size
  clear hg1 b5 hb34 hv4 HN4 hz4
  go_wp2_with fail
  refine (eqByteS_same _ _ L _ HG1.out.bytes (HG0.out.on hb35).bytes).mono ?_
  rintro e w6 ⟨rfl, b6⟩
  have HN6 := HN5.on b6
  have HL6 := HL3.on (ch_trans hb35 b6)
  have hb36 := ch_trans hb35 b6
  have hv6 := ch_trans hv5 b6
  have HG6 : Hid (Got w6 (w4.heap.size + 1) 5 1 (.slice a1 n1 e1) (L.map byX)) := HG1.out.on b6
  have hz6 : w4.heap.size + 1 ≤ w6.heap.size := Nat.le_trans hz5 b6.size
  have hb6 := ch_trans hb3 hb36
  clear b6 HN5 hb35 hv5 HG1 hz5
  obtain ⟨c0, c1, c2, c3, c4, c5, c6, c7, c8, c9⟩ := HL6.ten
  obtain ⟨i0, i1, i2, i3, i4, i5, i6, i7, i8, i9⟩ := HN6.ten
  go_wp2_with fail
  refine region_plan [([0, 1], 2), ([], 3)] [4] (by kernel_rfl) (by kernel_rfl) ?_
  have hgd := Grows.drawn w6
  generalize { w6 with drawn := w6.drawn + 1 } = wd at hgd ⊢
  have hbd := ch_trans hb6 hgd
  have HLd := HL6.on hgd
  have HNd := HN6.on hgd
  clear c0 c1 c2 c3 c4 c5 c6 c7 c8 c9 i0 i1 i2 i3 i4 i5 i6 i7 i8 i9
  refine plan_on (by simp only [pick, List.getElem?_toArray, List.getElem?_cons_succ, List.getElem?_cons_zero]; rfl) ?_
  repeat (go_big_quiet_step ((intro hu; obtain ⟨c0, c1, c2, c3, c4, c5, c6, c7, c8, c9⟩ := (HLd.on hu).ten; obtain ⟨i0, i1, i2, i3, i4, i5, i6, i7, i8, i9⟩ := (HNd.on hu).ten; go_simp; (try exact rfl))))
  refine wpQuiet_nil ?_
  refine plan_call rfl rfl (fun K hK => ?_)
  go_simp
  go_at_call 20
  refine (HTD.out _ hbd).mono ?_
  rintro e w7 ⟨y, rfl, b7, hy⟩
  refine ⟨_, rfl, hK _ _ ⟨b7, ?_⟩⟩
  have HYT : Hid (StmtV w7 y t) := hy.out.stmt
  have hg67 := ch_trans hgd b7
  clear hK K hy
  refine plan_on rfl ?_
  refine wpQuiet_nil ?_
  refine plan_call rfl rfl (fun K hK => ?_)
  go_simp
  go_at_call 23
  refine (eqStmt_same _ _ t _ (HX4.out.on (ch_trans hv6 hg67)) HYT.out).mono ?_
  rintro e w9 ⟨rfl, b9⟩
  refine ⟨_, rfl, hK _ _ ⟨b9, ?_⟩⟩
  have h69 := ch_trans hg67 b9
  have HN9 := HN6.on h69
  have hb39 := ch_trans hb36 h69
  have hv9 := ch_trans hv6 h69
  have HG9 : Hid (Got w9 (w4.heap.size + 1) 5 1 (.slice a1 n1 e1) (L.map byX)) := HG6.out.on h69
  have hz9 : w4.heap.size + 1 ≤ w9.heap.size := Nat.le_trans hz6 h69.size
  have HSH9 : Hid (ValsS S w9 (.slice ka4 t.key.length kp4) ∧ ValsS S w9 (.slice ra4 t.row.length rp4) ∧ ColsS S w9 (.slice ca4 t.ddl.cols.length cp4) ∧ StrsS S w9 (.slice oa4 t.ddl.keys.length op4)) := ⟨ValsS.good.holds S _ _ _ (fun c _ hc => hv9.block c hc) HSH.out.1, ValsS.good.holds S _ _ _ (fun c _ hc => hv9.block c hc) HSH.out.2.1, ColsS.good.holds S _ _ _ (fun c _ hc => hv9.block c hc) HSH.out.2.2.1, StrsS.good.holds S _ _ _ (fun c _ hc => hv9.block c hc) HSH.out.2.2.2⟩
  clear hK K b9 hg67 hgd hbd b7 HYT h69 HN6 hb36 hv6 HG6 hz6 hb6 HSH HX4 HL6 HLd HNd
  refine plan_end (by simp only [pick, List.getElem?_toArray, List.getElem?_cons_succ, List.getElem?_cons_zero]; rfl) ?_
  repeat (go_big_quiet_step ((intro hu; go_simp; (try exact rfl))))
  refine wpQuiet_nil ?_
  obtain ⟨i0, i1, i2, i3, i4, i5, i6, i7, i8, i9⟩ := HN9.ten
  go_wp2_with fail
  refine (markStmt_shape S _ _ _ _ _ _ _ _ _ _ 1 _ HSH9.out.1 HSH9.out.2.1 HSH9.out.2.2.1 HSH9.out.2.2.2 (fun c hc => by have := (HSD.out c hc).2; omega) (by omega)).mono ?_
  rintro e w10 ⟨K, rfl, _, hM⟩
  have hb310 : Below w3.heap.size w3 w10 := hb39.trans (hM.turns.toBelow (fun c hc => (HSD.out c hc).1) (by omega))
  have HG10 : Hid (Got w10 (w4.heap.size + 1) 5 1 (.slice a1 n1 e1) (L.map byX)) := HG9.out.turns hM.turns fun c hc => by have := (HSD.out c hc).2; omega
  have hz10 : w4.heap.size + 1 ≤ w10.heap.size := Nat.le_trans hz9 hM.turns.size
  have hk0 : decide ((K : Int) < 0) = false := by simp
  clear hM HSH9 HG9 hz9 hb39 hv9 i0 i1 i2 i3 i4 i5 i6 i7 i8 i9 HN9
  go_wp2_with (go_at_call 22; refine (eqByteS_same _ _ L _ HG10.out.bytes (HG0.out.on hb310).bytes).mono ?_; rintro e w11 ⟨rfl, b11⟩)
  have hb311 := ch_trans hb310 b11
  have HG11 : Hid (Got w11 (w4.heap.size + 1) 5 1 (.slice a1 n1 e1) (L.map byX)) := HG10.out.on b11
  have hz11 : w4.heap.size + 1 ≤ w11.heap.size := Nat.le_trans hz10 b11.size
  clear b11 hb310 HG10 hz10
  refine (markByteS_got HG11.out hkl' 1 (by omega)).mono ?_
  rintro e w12 ⟨rfl, hT, hheld⟩
  have HH : Hid (HeldL w12 (.slice a1 n1 e1) 1 (markY 1) (L.map byX).length) := hheld
  have hb312 : Below w3.heap.size w3 w12 := hb311.trans (hT.toBelow (fun c h => by have := HG11.out.own h; omega) (by have := hb311.size; omega))
  have HHS : Hid (∀ u : World, HeldL u (.slice a1 n1 e1) 1 (markY 1) (L.map byX).length → Calls Try.prog 26 #[.slice a1 n1 e1, .int .i64 1] u fun e w' => e = .returned (.int .i64 ((1 + (L.map byX).length : Nat) : Int)) ∧ Below u.heap.size u w') := fun u hu => heldByteS_held (k := 1) hu hkl' (by omega)
  clear hT hheld hb311 HG11 hz11
  generalize 1 + (L.map byX).length = M at HHS ⊢
  have hm0 : decide ((M : Int) < 0) = false := by simp
  have hmm : ((M : Int) != M) = false := by simp
  go_wp2_with fail
  refine (HHS.out _ HH.out).mono ?_
  rintro e w13 ⟨rfl, b13⟩
  have hb313 := ch_trans hb312 b13
  have HH13 : Hid (HeldL w13 (.slice a1 n1 e1) 1 (markY 1) (L.map byX).length) := HH.out.on b13
  have HL13 := HL3.on hb313
  have hb13 := ch_trans hb3 hb313
  clear b13 hb312 HH
  obtain ⟨c0, c1, c2, c3, c4, c5, c6, c7, c8, c9⟩ := HL13.ten
  go_wp2_with fail
  refine (HTD.out _ hb13).mono ?_
  rintro e w14 ⟨y, rfl, b14, hy⟩
  have HY14 : Hid (StmtV w14 y t) := hy.out.stmt
  have hb314 := ch_trans hb313 b14
  have HH14 : Hid (HeldL w14 (.slice a1 n1 e1) 1 (markY 1) (L.map byX).length) := HH13.out.on b14
  have hb14 := ch_trans hb13 b14
  clear hy b14 c0 c1 c2 c3 c4 c5 c6 c7 c8 c9 HL13 hb13 hb313 HH13
  go_wp2_with fail
  refine (HSI.out _ _ HY14.out).mono ?_
  rintro e w15 ⟨v2, rfl, b15, hg2⟩
  obtain ⟨a2, n2, e2, rfl, hg2⟩ := hg2.lit2
  have HG2 : Hid (Got w15 w14.heap.size 5 1 (.slice a2 n2 e2) (L.map byX)) := hg2
  have hb315 := ch_trans hb314 b15
  have HH15 : Hid (HeldL w15 (.slice a1 n1 e1) 1 (markY 1) (L.map byX).length) := HH14.out.on b15
  have hb15 := ch_trans hb14 b15
  clear hg2 b15 HY14 hb314 HH14 hb14
  go_wp2_with fail
  refine (eqByteS_same _ _ L _ HG2.out.bytes (HG0.out.on hb315).bytes).mono ?_
  rintro e w16 ⟨rfl, b16⟩
  have hb16 := ch_trans hb15 b16
  have HH16 : Hid (HeldL w16 (.slice a1 n1 e1) 1 (markY 1) (L.map byX).length) := HH15.out.on b16
  clear b16 hb15 HH15 hb315
  go_wp2_with fail
  refine (HHS.out _ HH16.out).mono ?_
  rintro e w17 ⟨rfl, b17⟩
  have hb17 := ch_trans hb16 b17
  clear b17 hb16
  go_wp2
  go_ret
  exact ⟨rfl, hb17⟩

theorem own : ownKnob Try.prog.godebug = none := by kernel_rfl
theorem laidOut : laidOutB Try.prog = true := by kernel_rfl

set_option maxRecDepth 100000 in
theorem lifted (os : Os) (started : os.Started) (H : Type) (enc : TypeId × Value → H) :
    ReturnsInHanded {} Try.checked os 5 .any (Rows.fnExactStmtBytesSpec.pre6 enc Try.prog Try.f5 Rows.fnExactStmtBytesRow.domain false) (Rows.fnExactStmtBytesSpec.post enc Try.prog Try.f5 false true false false) := by
  refine returnsInHanded_of_change (C := Try.checked) own started (by kernel_rfl) Try.func5
    (ChangeSpec.witness6 (enc := enc) (C := Try.checked) false ⟨#[], #[.agg #[.int .i64 0, .string ByteArray.empty, .slice none 0 0, .slice none 0 0, .int .i64 0, .string ByteArray.empty, .slice none 0 0, .slice none 0 0, .string ByteArray.empty, .string ByteArray.empty]], []⟩ 8 (by kernel_rfl) (by kernel_rfl) (by kernel_rfl) (by kernel_rfl)) ?_
  intro W base args ds gs before hval0 hW _ _
  have hval : ∀ (j : Nat) t v, Try.f5.params[j]? = some t → args[j]? = some v → Value.okWide Try.prog W .any base t v := hval0
  have hW' := hW
  obtain ⟨p, q, hA0, hV, rfl, _, _⟩ := hW
  have hA : DataW.TrodAll enc Try.prog W 0 (fun _ => true) true Try.f5.params.toList args.toList ds p := hA0
  rw [Try.params5] at hA hval
  obtain ⟨v0, d0, rfl, rfl, h0⟩ := trodAll_one hA
  obtain ⟨rfl, rfl⟩ := trodVars_none hV
  have h0k := h0
  obtain ⟨cs, rfl, hsz⟩ := okWide_struct Try.underlying51 (hval 0 51 v0 rfl rfl)
  obtain ⟨k, hk⟩ := h0
  obtain ⟨x, t, hc, hx, hf⟩ := open_stmt hk
  have hc' : cs = x := by apply Array.toList_inj.1; simpa [Value.cells] using hc
  subst hc'
  clear hA0 hval0
  simp only [List.append_nil] at hW'
  have hlt : ∀ x ∈ p, x.block < W.heap.size := fun x hx => by simpa using hW'.lt x (by simpa using hx)
  refine (walk cs t W hx hf).mono fun e W' ⟨he, bel⟩ => ?_
  subst he
  exact ⟨_, rfl, _, _, _, [], _, [], hW', trodAll_mk1 (shut_bool Try.underlying4 _), trodAll_mk1 (Below.trod laidOut (by kernel_rfl) (of_decide_eq_true (by kernel_rfl)) h0k bel hlt), rfl, bel.frame _, fun h => by cases h⟩

theorem over : Rows.FnExactStmtBytesSaid :=
  OpenClaim.holds_of_wide 5 Try.f5 rfl rfl rfl rfl rfl rfl rfl ⟨rfl, rfl, rfl, rfl, rfl⟩ rfl rfl rfl rfl rfl (by kernel_rfl) Try.func5 (by kernel_rfl)
    (of_decide_eq_true (by kernel_rfl)) (by unfold Func.isWrapper; first | (rw [if_pos (by decide +kernel)]; kernel_rfl) | (rw [if_neg (by decide +kernel)]; exact ⟨rfl, rfl⟩))
    (fun os started H enc _ => lifted os started H enc)
end Go.Proofs.Ytikccmgpmbnkfaa.lawStmtBytes
namespace Go.Proofs.Ytikccmgpmbnkfaa
theorem fnExactStmtBytes_holds : Rows.FnExactStmtBytesSaid := lawStmtBytes.over
#print axioms fnExactStmtBytes_holds
end Go.Proofs.Ytikccmgpmbnkfaa
