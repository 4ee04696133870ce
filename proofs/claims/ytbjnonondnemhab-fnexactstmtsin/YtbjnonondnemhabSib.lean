/- The statements of a batch: landed and given. -/
import Derived.Test.YtbjnonondnemhabBtm
import Derived.Test.YtbjnonondnemhabSg
import Derived.Test.YtbjnonondnemhabCs
import Derived.Test.YtbjnonondnemhabCz
namespace Go.Proofs.Ytbjnonondnemhab
open Go.ChangeShapes Go.WideShapes Go.ChangeAt Go.RowKit

/-- The statements of a batch's parts, in order. -/
def inL (ts : List Ptc) : List Sc := ts.map (fun t => t.st)
theorem inL_add {ts : List Ptc} {k : Nat} (hk : k < ts.length) : inL (ts.take (k + 1)) = inL (ts.take k) ++ [ts[k].st] := by
  rw [inL, List.take_succ_eq_append_getElem hk, List.map_append]
  rfl

set_option maxRecDepth 100000 in
set_option maxHeartbeats 4000000 in
/-- impl.StmtsIn -/
theorem stmtsIn_impl (n p : Int) (v : Value) (ts : List Ptc) (w : World) (hx : PartsX w v ts) (few : pfews ts) :
    Calls Try.prog 18 #[.agg #[.int .i64 n, .int .i64 p, v]] w fun e w' => ∃ kv, e = .returned kv ∧ Below w.heap.size w w' ∧ StmtsG w' w.heap.size kv (inL ts) := by
  obtain ⟨b, cap, rfl, hl, hm, hx⟩ := hx.lit
  unfold maxLen at hm
  have HX : Hid (PartsX w (.slice (some ⟨b, 0, none⟩) ts.length cap) ts) := hx
  have hn := few.1
  have HFW : Hid (∀ t ∈ ts, t.few) := few.2
  clear hx few
  go_enter Try.func18, Try.ntmps18
  go_wp2
  have HG0 : Hid (StmtsG (w.alloc (.cells #[.int .i64 n, .int .i64 p, .slice (some ⟨b, 0, none⟩) ts.length cap] 52)) w.heap.size (.slice none 0 0) (inL (ts.take 0))) := StmtsG.nil _ _
  go_loopw [3, 9] (fun v i wr => ∃ k : Nat, k ≤ ts.length ∧ i = .int .i64 k ∧ Below w.heap.size w wr ∧ Hid (StmtsG wr w.heap.size v (inL (ts.take k)))) (fun _ i _ => ts.length - (intOf i).toNat)
  case atStart => exact ⟨0, Nat.zero_le _, rfl, (by repeat (first | with_reducible exact Below.refl _ _ | with_reducible assumption | with_reducible refine ch_alloc ?_ _ | with_reducible refine Below.drew ?_ | with_reducible refine below_draws _ ?_ | (with_reducible refine Below.setCell ?_ ?_ _; rotate_left; focus (first | with_reducible exact Nat.le_refl _ | (simp; done) | (simp; omega) | (simp at *; omega))) | with_reducible refine ch_trans ?_ (by with_reducible assumption))), HG0⟩
  case round =>
    clear HG0
    obtain ⟨k, hk, rfl, hb, HG⟩ := hrel
    obtain ⟨a', n', cap', rfl, hg⟩ := HG.out.lit
    have HG' : Hid (StmtsG wr w.heap.size (.slice a' n' cap') (inL (ts.take k))) := hg
    clear HG hg
    by_cases hlt : k < ts.length
    · have hlti : (k : Int) < ts.length := by omega
      obtain ⟨kb, kp, rb, rp, cb, cp, ob, op, yb, yp, zb, zp, hp, d0, d1, d2, d3, d4, d5, d6, d7, d8, d9, d10, d11⟩ := (HX.out.on hb).part k hlt
      have HP : Hid _ := hp
      clear hp
      have hbw := hb.size
      have HPL : Hid (inL (ts.take (k + 1)) = inL (ts.take k) ++ [ts[k].st]) := inL_add hlt
      have HCP : Hid (∀ u : World, Below wr.heap.size wr u → Calls Try.prog 48 #[.agg #[.int .i64 ts[k].st.kind, .string ts[k].st.table, .slice (some ⟨kb, 0, none⟩) ts[k].st.key.length kp, .slice (some ⟨rb, 0, none⟩) ts[k].st.row.length rp, .int .i64 ts[k].st.ddl.kind, .string ts[k].st.ddl.table, .slice (some ⟨cb, 0, none⟩) ts[k].st.ddl.cols.length cp, .slice (some ⟨ob, 0, none⟩) ts[k].st.ddl.keys.length op, .string ts[k].st.ddl.name, .string ts[k].st.ddl.to]] u fun e w' => ∃ E : Est, e = .returned (.agg E.cells) ∧ E.s = ts[k].st ∧ u.heap.size ≤ E.lo ∧ Below u.heap.size u w' ∧ E.Good w') := fun u hu => copyStmt_own kb 0 kp rb 0 rp cb 0 cp ob 0 op ts[k].st u (HP.out.1.on hu) (HP.out.2.1.on hu) (HP.out.2.2.1.on hu) (HP.out.2.2.2.1.on hu) (HFW.out _ (List.getElem_mem hlt)).1
      go_wp2_with fail
      refine (HCP.out _ (by repeat (first | with_reducible exact Below.refl _ _ | with_reducible assumption | with_reducible refine ch_alloc ?_ _ | with_reducible refine Below.drew ?_ | with_reducible refine below_draws _ ?_ | (with_reducible refine Below.setCell ?_ ?_ _; rotate_left; focus (first | with_reducible exact Nat.le_refl _ | (simp; done) | (simp; omega) | (simp at *; omega))) | with_reducible refine ch_trans ?_ (by with_reducible assumption)))).mono ?_
      rintro e w1 ⟨En, rfl, hes, hlo, b1, hgood⟩
      have hb1 : Below wr.heap.size wr w1 := (by repeat (first | with_reducible exact Below.refl _ _ | with_reducible assumption | with_reducible refine ch_alloc ?_ _ | with_reducible refine Below.drew ?_ | with_reducible refine below_draws _ ?_ | (with_reducible refine Below.setCell ?_ ?_ _; rotate_left; focus (first | with_reducible exact Nat.le_refl _ | (simp; done) | (simp; omega) | (simp at *; omega))) | with_reducible refine ch_trans ?_ (by with_reducible assumption)))
      have HEN : Hid (En.s = ts[k].st ∧ wr.heap.size ≤ En.lo ∧ En.Good w1) := ⟨hes, by simp at hlo; omega, hgood⟩
      obtain ⟨E, h1, h2, h3, h4, h5⟩ := HG'.out
      have HE : Hid (E.map (fun e => e.s) = inL (ts.take k) ∧ Got wr w.heap.size 67 10 (.slice a' n' cap') (E.map Est.cells) ∧ (∀ e ∈ E, w.heap.size ≤ e.lo ∧ e.Good wr) ∧ E.Pairwise (fun a b => a.hi ≤ b.lo) ∧ ∀ g, (Value.slice a' n' cap').ownBlock = some g → ∀ e ∈ E, g < e.lo ∨ e.hi ≤ g) := ⟨h1, h2, h3, h4, h5⟩
      have hEl : (E.map Est.cells).length ≤ 1048576 := by
        have h0 := congrArg List.length h1
        rw [List.length_map] at h0 ⊢
        rw [h0, inL, List.length_map]
        simp; omega
      have hs1 := hb1.size
      have HST : Hid (StmtV w1 En.cells En.s) := hgood.stmt
      clear h1 h2 h3 h4 h5 b1 hgood hlo hes d0 d1 d2 d3 d4 d5 d6 d7 d8 d9 d10 d11
      go_wp2_with (at_builtin; refine app_turnK rfl (.tmp 13) (.tmp 17) rfl Try.underlying48 infoStm rfl (by decide) (by decide) w.heap.size _ (E.map Est.cells) rfl (HE.out.2.1.on (show Below wr.heap.size wr _ from (by repeat (first | with_reducible exact Below.refl _ _ | with_reducible assumption | with_reducible refine ch_alloc ?_ _ | with_reducible refine Below.drew ?_ | with_reducible refine below_draws _ ?_ | (with_reducible refine Below.setCell ?_ ?_ _; rotate_left; focus (first | with_reducible exact Nat.le_refl _ | (simp; done) | (simp; omega) | (simp at *; omega))) | with_reducible refine ch_trans ?_ (by with_reducible assumption))))) w1.heap.size 1 En.cells rfl (Loc.new _ _ _) rfl HST.out.oneC (by omega) (by simp; omega) ?_; intro v' w2 hg2 hb2 ht2 hl2)
      have HG2 : Hid (StmtsG w2 w.heap.size v' (inL (ts.take (k + 1)))) := by
        have h := StmtsG.add HE.out.2.1 HE.out.2.2.1 HE.out.2.2.2.1 HE.out.2.2.2.2 hb1 HEN.out.2.2 HEN.out.2.1 (by omega) (ch_alloc (Below.refl _ _) _) hg2 ht2 hl2
        show StmtsG _ _ _ _
        rw [HPL.out, ← HE.out.1, ← HEN.out.1]
        exact h
      have hb3 : Below w.heap.size w w2 := Below.trans (ch_alloc (ch_trans hb hb1) _) hb2
      go_round
      case rel => exact ⟨k + 1, by omega, by go_num, hb3, HG2⟩
      case measure => simp [intOf]; omega
    · have hlti : (ts.length : Int) ≤ k := by omega
      have HI : Hid (StmtsG wr w.heap.size (.slice a' n' cap') (inL ts)) := by
        have := HG'.out
        rwa [List.take_of_length_le (by omega)] at this
      go_wp2
      go_ret
      exact ⟨_, rfl, (by repeat (first | with_reducible exact Below.refl _ _ | with_reducible assumption | with_reducible refine ch_alloc ?_ _ | with_reducible refine Below.drew ?_ | with_reducible refine below_draws _ ?_ | (with_reducible refine Below.setCell ?_ ?_ _; rotate_left; focus (first | with_reducible exact Nat.le_refl _ | (simp; done) | (simp; omega) | (simp at *; omega))) | with_reducible refine ch_trans ?_ (by with_reducible assumption))), HI.out⟩

set_option maxRecDepth 100000 in
set_option maxHeartbeats 4000000 in
/-- spec.StmtsIn -/
theorem stmtsIn_spec (n p : Int) (v : Value) (ts : List Ptc) (w : World) (hx : PartsX w v ts) (few : pfews ts) :
    Calls Try.prog 16 #[.agg #[.int .i64 n, .int .i64 p, v]] w fun e w' => ∃ kv, e = .returned kv ∧ Below w.heap.size w w' ∧ StmtsG w' w.heap.size kv (inL ts) := by
  obtain ⟨b, cap, rfl, hl, hm, hx⟩ := hx.lit
  unfold maxLen at hm
  have HX : Hid (PartsX w (.slice (some ⟨b, 0, none⟩) ts.length cap) ts) := hx
  have hn := few.1
  have HFW : Hid (∀ t ∈ ts, t.few) := few.2
  clear hx few
  go_enter Try.func16, Try.ntmps16
  go_wp2
  have HG0 : Hid (StmtsG ((w.alloc (.cells #[.int .i64 n, .int .i64 p, .slice (some ⟨b, 0, none⟩) ts.length cap] 52)).alloc (.cells #[] 67)) w.heap.size (.slice (some ⟨w.heap.size + 1, 0, none⟩) 0 0) (inL (ts.take 0))) := (StmtsG.emptyAt _ (by simp)).mono (by omega)
  go_loopw [3, 10] (fun v i wr => ∃ k : Nat, k ≤ ts.length ∧ i = .int .i64 k ∧ Below w.heap.size w wr ∧ Hid (StmtsG wr w.heap.size v (inL (ts.take k)))) (fun _ i _ => ts.length - (intOf i).toNat)
  case atStart => exact ⟨0, Nat.zero_le _, rfl, (by repeat (first | with_reducible exact Below.refl _ _ | with_reducible assumption | with_reducible refine ch_alloc ?_ _ | with_reducible refine Below.drew ?_ | with_reducible refine below_draws _ ?_ | (with_reducible refine Below.setCell ?_ ?_ _; rotate_left; focus (first | with_reducible exact Nat.le_refl _ | (simp; done) | (simp; omega) | (simp at *; omega))) | with_reducible refine ch_trans ?_ (by with_reducible assumption))), HG0⟩
  case round =>
    clear HG0
    obtain ⟨k, hk, rfl, hb, HG⟩ := hrel
    obtain ⟨a', n', cap', rfl, hg⟩ := HG.out.lit
    have HG' : Hid (StmtsG wr w.heap.size (.slice a' n' cap') (inL (ts.take k))) := hg
    clear HG hg
    by_cases hlt : k < ts.length
    · have hlti : (k : Int) < ts.length := by omega
      obtain ⟨kb, kp, rb, rp, cb, cp, ob, op, yb, yp, zb, zp, hp, d0, d1, d2, d3, d4, d5, d6, d7, d8, d9, d10, d11⟩ := (HX.out.on hb).part k hlt
      have HP : Hid _ := hp
      clear hp
      have hbw := hb.size
      have HPL : Hid (inL (ts.take (k + 1)) = inL (ts.take k) ++ [ts[k].st]) := inL_add hlt
      have HCP : Hid (∀ u : World, Below wr.heap.size wr u → Calls Try.prog 46 #[.agg #[.int .i64 ts[k].st.kind, .string ts[k].st.table, .slice (some ⟨kb, 0, none⟩) ts[k].st.key.length kp, .slice (some ⟨rb, 0, none⟩) ts[k].st.row.length rp, .int .i64 ts[k].st.ddl.kind, .string ts[k].st.ddl.table, .slice (some ⟨cb, 0, none⟩) ts[k].st.ddl.cols.length cp, .slice (some ⟨ob, 0, none⟩) ts[k].st.ddl.keys.length op, .string ts[k].st.ddl.name, .string ts[k].st.ddl.to]] u fun e w' => ∃ E : Est, e = .returned (.agg E.cells) ∧ E.s = ts[k].st ∧ u.heap.size ≤ E.lo ∧ Below u.heap.size u w' ∧ E.Good w') := fun u hu => l07Stmt_own kb 0 kp rb 0 rp cb 0 cp ob 0 op ts[k].st u (HP.out.1.on hu) (HP.out.2.1.on hu) (HP.out.2.2.1.on hu) (HP.out.2.2.2.1.on hu) (HFW.out _ (List.getElem_mem hlt)).1
      go_wp2_with fail
      refine (HCP.out _ (by repeat (first | with_reducible exact Below.refl _ _ | with_reducible assumption | with_reducible refine ch_alloc ?_ _ | with_reducible refine Below.drew ?_ | with_reducible refine below_draws _ ?_ | (with_reducible refine Below.setCell ?_ ?_ _; rotate_left; focus (first | with_reducible exact Nat.le_refl _ | (simp; done) | (simp; omega) | (simp at *; omega))) | with_reducible refine ch_trans ?_ (by with_reducible assumption)))).mono ?_
      rintro e w1 ⟨En, rfl, hes, hlo, b1, hgood⟩
      have hb1 : Below wr.heap.size wr w1 := (by repeat (first | with_reducible exact Below.refl _ _ | with_reducible assumption | with_reducible refine ch_alloc ?_ _ | with_reducible refine Below.drew ?_ | with_reducible refine below_draws _ ?_ | (with_reducible refine Below.setCell ?_ ?_ _; rotate_left; focus (first | with_reducible exact Nat.le_refl _ | (simp; done) | (simp; omega) | (simp at *; omega))) | with_reducible refine ch_trans ?_ (by with_reducible assumption)))
      have HEN : Hid (En.s = ts[k].st ∧ wr.heap.size ≤ En.lo ∧ En.Good w1) := ⟨hes, by simp at hlo; omega, hgood⟩
      obtain ⟨E, h1, h2, h3, h4, h5⟩ := HG'.out
      have HE : Hid (E.map (fun e => e.s) = inL (ts.take k) ∧ Got wr w.heap.size 67 10 (.slice a' n' cap') (E.map Est.cells) ∧ (∀ e ∈ E, w.heap.size ≤ e.lo ∧ e.Good wr) ∧ E.Pairwise (fun a b => a.hi ≤ b.lo) ∧ ∀ g, (Value.slice a' n' cap').ownBlock = some g → ∀ e ∈ E, g < e.lo ∨ e.hi ≤ g) := ⟨h1, h2, h3, h4, h5⟩
      have hEl : (E.map Est.cells).length ≤ 1048576 := by
        have h0 := congrArg List.length h1
        rw [List.length_map] at h0 ⊢
        rw [h0, inL, List.length_map]
        simp; omega
      have hs1 := hb1.size
      have HST : Hid (StmtV w1 En.cells En.s) := hgood.stmt
      clear h1 h2 h3 h4 h5 b1 hgood hlo hes d0 d1 d2 d3 d4 d5 d6 d7 d8 d9 d10 d11
      go_wp2_with (at_builtin; refine app_turnK rfl (.tmp 14) (.tmp 18) rfl Try.underlying48 infoStm rfl (by decide) (by decide) w.heap.size _ (E.map Est.cells) rfl (HE.out.2.1.on (show Below wr.heap.size wr _ from (by repeat (first | with_reducible exact Below.refl _ _ | with_reducible assumption | with_reducible refine ch_alloc ?_ _ | with_reducible refine Below.drew ?_ | with_reducible refine below_draws _ ?_ | (with_reducible refine Below.setCell ?_ ?_ _; rotate_left; focus (first | with_reducible exact Nat.le_refl _ | (simp; done) | (simp; omega) | (simp at *; omega))) | with_reducible refine ch_trans ?_ (by with_reducible assumption))))) w1.heap.size 1 En.cells rfl (Loc.new _ _ _) rfl HST.out.oneC (by omega) (by simp; omega) ?_; intro v' w2 hg2 hb2 ht2 hl2)
      have HG2 : Hid (StmtsG w2 w.heap.size v' (inL (ts.take (k + 1)))) := by
        have h := StmtsG.add HE.out.2.1 HE.out.2.2.1 HE.out.2.2.2.1 HE.out.2.2.2.2 hb1 HEN.out.2.2 HEN.out.2.1 (by omega) (ch_alloc (Below.refl _ _) _) hg2 ht2 hl2
        show StmtsG _ _ _ _
        rw [HPL.out, ← HE.out.1, ← HEN.out.1]
        exact h
      have hb3 : Below w.heap.size w w2 := Below.trans (ch_alloc (ch_trans hb hb1) _) hb2
      go_round
      case rel => exact ⟨k + 1, by omega, by go_num, hb3, HG2⟩
      case measure => simp [intOf]; omega
    · have hlti : (ts.length : Int) ≤ k := by omega
      have HI : Hid (StmtsG wr w.heap.size (.slice a' n' cap') (inL ts)) := by
        have := HG'.out
        rwa [List.take_of_length_le (by omega)] at this
      go_wp2
      go_ret
      exact ⟨_, rfl, (by repeat (first | with_reducible exact Below.refl _ _ | with_reducible assumption | with_reducible refine ch_alloc ?_ _ | with_reducible refine Below.drew ?_ | with_reducible refine below_draws _ ?_ | (with_reducible refine Below.setCell ?_ ?_ _; rotate_left; focus (first | with_reducible exact Nat.le_refl _ | (simp; done) | (simp; omega) | (simp at *; omega))) | with_reducible refine ch_trans ?_ (by with_reducible assumption))), HI.out⟩
end Go.Proofs.Ytbjnonondnemhab
