/- The statements of one transaction: landed. -/
import Derived.Test.YtmcjchaokpcomaaRx
import Derived.Test.YtmcjchaokpcomaaSg
import Derived.Test.YtmcjchaokpcomaaCs
namespace Go.Proofs.Ytmcjchaokpcomaa
open Go.ChangeShapes Go.WideShapes Go.ChangeAt Go.RowKit

/-- The statements of one transaction, in order. -/
def stsL (ts : List Lc) (x : Int) : List Sc := (ts.filter (fun t => decide (t.kind = 2 ∧ t.xid = x))).map (fun t => t.st)
theorem stsL_add {ts : List Lc} {x : Int} {k : Nat} (hk : k < ts.length) (h : ts[k].kind = 2 ∧ ts[k].xid = x) : stsL (ts.take (k + 1)) x = stsL (ts.take k) x ++ [ts[k].st] := by
  rw [stsL, List.take_succ_eq_append_getElem hk, List.filter_append, List.map_append]
  simp [stsL, h]
theorem stsL_skip {ts : List Lc} {x : Int} {k : Nat} (hk : k < ts.length) (h : ¬ (ts[k].kind = 2 ∧ ts[k].xid = x)) : stsL (ts.take (k + 1)) x = stsL (ts.take k) x := by
  rw [stsL, List.take_succ_eq_append_getElem hk, List.filter_append, List.map_append]
  have : [ts[k]].filter (fun t => decide (t.kind = 2 ∧ t.xid = x)) = [] := by simp; exact fun h1 h2 => h ⟨h1, h2⟩
  rw [this]; simp [stsL]
theorem stsL_len (ts : List Lc) (x : Int) : (stsL ts x).length ≤ ts.length := by
  rw [stsL, List.length_map]; exact List.length_filter_le _ _

set_option maxRecDepth 100000 in
set_option maxHeartbeats 4000000 in
/-- impl.StmtsOf -/
theorem stmtsOf_impl (x : Int) (v : Value) (ts : List Lc) (w : World) (hx : RecsX w v ts) (few : lfews ts) :
    Calls Try.prog 24 #[v, .int .i64 x] w fun e w' => ∃ kv, e = .returned kv ∧ Below w.heap.size w w' ∧ StmtsG w' w.heap.size kv (stsL ts x) := by
  obtain ⟨b, cap, rfl, hl, hm, hx⟩ := hx.lit
  unfold maxLen at hm
  have HX : Hid (RecsX w (.slice (some ⟨b, 0, none⟩) ts.length cap) ts) := hx
  have hn := few.1
  have HFW : Hid (∀ t ∈ ts, t.few) := few.2
  clear hx few
  go_enter Try.func24, Try.ntmps24
  go_wp2
  have HG0 : Hid (StmtsG w w.heap.size (.slice none 0 0) (stsL (ts.take 0) x)) := StmtsG.nil _ _
  go_loopw [5, 10] (fun v i wr => ∃ k : Nat, k ≤ ts.length ∧ i = .int .i64 k ∧ Below w.heap.size w wr ∧ Hid (StmtsG wr w.heap.size v (stsL (ts.take k) x))) (fun _ i _ => ts.length - (intOf i).toNat)
  case atStart => exact ⟨0, Nat.zero_le _, rfl, (by repeat (first | with_reducible exact Below.refl _ _ | with_reducible assumption | with_reducible refine ch_alloc ?_ _ | with_reducible refine Below.drew ?_ | with_reducible refine below_draws _ ?_ | (with_reducible refine Below.setCell ?_ ?_ _; rotate_left; focus (first | with_reducible exact Nat.le_refl _ | (simp; done) | (simp; omega) | (simp at *; omega))) | with_reducible refine ch_trans ?_ (by with_reducible assumption))), HG0⟩
  case round =>
    clear HG0
    obtain ⟨k, hk, rfl, hb, HG⟩ := hrel
    obtain ⟨a', n', cap', rfl, hg⟩ := HG.out.lit
    have HG' : Hid (StmtsG wr w.heap.size (.slice a' n' cap') (stsL (ts.take k) x)) := hg
    clear HG hg
    by_cases hlt : k < ts.length
    · have hlti : (k : Int) < ts.length := by omega
      obtain ⟨kb, kp, rb, rp, cb, cp, ob, op, hp, d0, d1, d2, d3, d4, d5, d6, d7, d8, d9, d10, d11⟩ := (HX.out.on hb).rec k hlt
      have HP : Hid _ := hp
      have HRA : Hid (Own (wr.alloc (.cells #[.int .i64 ts[k].kind, .int .i64 ts[k].xid, .int .i64 ts[k].st.kind, .string ts[k].st.table, .slice (some ⟨kb, 0, none⟩) ts[k].st.key.length kp, .slice (some ⟨rb, 0, none⟩) ts[k].st.row.length rp, .int .i64 ts[k].st.ddl.kind, .string ts[k].st.ddl.table, .slice (some ⟨cb, 0, none⟩) ts[k].st.ddl.cols.length cp, .slice (some ⟨ob, 0, none⟩) ts[k].st.ddl.keys.length op, .string ts[k].st.ddl.name, .string ts[k].st.ddl.to] 44)) wr.heap.size 44 #[.int .i64 ts[k].kind, .int .i64 ts[k].xid, .int .i64 ts[k].st.kind, .string ts[k].st.table, .slice (some ⟨kb, 0, none⟩) ts[k].st.key.length kp, .slice (some ⟨rb, 0, none⟩) ts[k].st.row.length rp, .int .i64 ts[k].st.ddl.kind, .string ts[k].st.ddl.table, .slice (some ⟨cb, 0, none⟩) ts[k].st.ddl.cols.length cp, .slice (some ⟨ob, 0, none⟩) ts[k].st.ddl.keys.length op, .string ts[k].st.ddl.name, .string ts[k].st.ddl.to]) := Own.new _ _ _
      clear hp
      have hbw := hb.size
      by_cases hs : ts[k].kind = 2 ∧ ts[k].xid = x
      · have HPL : Hid (stsL (ts.take (k + 1)) x = stsL (ts.take k) x ++ [ts[k].st]) := stsL_add hlt hs
        have j1 : (ts[k].kind == 2) = true := by simpa using hs.1
        have j2 : (ts[k].xid == x) = true := by simpa using hs.2
        have HCP : Hid (∀ u : World, Below wr.heap.size wr u → Calls Try.prog 46 #[.agg #[.int .i64 ts[k].st.kind, .string ts[k].st.table, .slice (some ⟨kb, 0, none⟩) ts[k].st.key.length kp, .slice (some ⟨rb, 0, none⟩) ts[k].st.row.length rp, .int .i64 ts[k].st.ddl.kind, .string ts[k].st.ddl.table, .slice (some ⟨cb, 0, none⟩) ts[k].st.ddl.cols.length cp, .slice (some ⟨ob, 0, none⟩) ts[k].st.ddl.keys.length op, .string ts[k].st.ddl.name, .string ts[k].st.ddl.to]] u fun e w' => ∃ E : Est, e = .returned (.agg E.cells) ∧ E.s = ts[k].st ∧ u.heap.size ≤ E.lo ∧ Below u.heap.size u w' ∧ E.Good w') := fun u hu => copyStmt_own kb 0 kp rb 0 rp cb 0 cp ob 0 op ts[k].st u (HP.out.1.on hu) (HP.out.2.1.on hu) (HP.out.2.2.1.on hu) (HP.out.2.2.2.on hu) (HFW.out _ (List.getElem_mem hlt))
        clear hs
        go_wp2_with fail
        refine (HCP.out _ (by repeat (first | with_reducible exact Below.refl _ _ | with_reducible assumption | with_reducible refine ch_alloc ?_ _ | with_reducible refine Below.drew ?_ | with_reducible refine below_draws _ ?_ | (with_reducible refine Below.setCell ?_ ?_ _; rotate_left; focus (first | with_reducible exact Nat.le_refl _ | (simp; done) | (simp; omega) | (simp at *; omega))) | with_reducible refine ch_trans ?_ (by with_reducible assumption)))).mono ?_
        rintro e w1 ⟨En, rfl, hes, hlo, b1, hgood⟩
        have hb1 : Below wr.heap.size wr w1 := (by repeat (first | with_reducible exact Below.refl _ _ | with_reducible assumption | with_reducible refine ch_alloc ?_ _ | with_reducible refine Below.drew ?_ | with_reducible refine below_draws _ ?_ | (with_reducible refine Below.setCell ?_ ?_ _; rotate_left; focus (first | with_reducible exact Nat.le_refl _ | (simp; done) | (simp; omega) | (simp at *; omega))) | with_reducible refine ch_trans ?_ (by with_reducible assumption)))
        have HEN : Hid (En.s = ts[k].st ∧ wr.heap.size ≤ En.lo ∧ En.Good w1) := ⟨hes, by simp at hlo; omega, hgood⟩
        obtain ⟨q1, q2, q3, q4, eq⟩ : ∃ q1 q2 q3 q4, En.cells = En.s.cells q1 q2 q3 q4 := ⟨_, _, _, _, rfl⟩
        obtain ⟨E, h1, h2, h3, h4, h5⟩ := HG'.out
        have HE : Hid (E.map (fun e => e.s) = stsL (ts.take k) x ∧ Got wr w.heap.size 42 10 (.slice a' n' cap') (E.map Est.cells) ∧ (∀ e ∈ E, w.heap.size ≤ e.lo ∧ e.Good wr) ∧ E.Pairwise (fun a b => a.hi ≤ b.lo) ∧ ∀ g, (Value.slice a' n' cap').ownBlock = some g → ∀ e ∈ E, g < e.lo ∨ e.hi ≤ g) := ⟨h1, h2, h3, h4, h5⟩
        have hEl : (E.map Est.cells).length ≤ 1048576 := by
          have h0 := congrArg List.length h1
          rw [List.length_map] at h0 ⊢
          rw [h0]
          exact Nat.le_trans (stsL_len _ _) (by simp; omega)
        have hs1 := hb1.size
        have HST : Hid (StmtV w1 En.cells En.s) := hgood.stmt
        clear h1 h2 h3 h4 h5 b1 hgood hlo hes eq q1 q2 q3 q4 d0 d1 d2 d3 d4 d5 d6 d7 d8 d9 d10 d11
        go_wp2_with (at_builtin; refine app_turnK rfl (.tmp 23) (.tmp 27) rfl Try.underlying61 infoStm rfl (by decide) (by decide) w.heap.size _ (E.map Est.cells) rfl (HE.out.2.1.on (show Below wr.heap.size wr _ from (by repeat (first | with_reducible exact Below.refl _ _ | with_reducible assumption | with_reducible refine ch_alloc ?_ _ | with_reducible refine Below.drew ?_ | with_reducible refine below_draws _ ?_ | (with_reducible refine Below.setCell ?_ ?_ _; rotate_left; focus (first | with_reducible exact Nat.le_refl _ | (simp; done) | (simp; omega) | (simp at *; omega))) | with_reducible refine ch_trans ?_ (by with_reducible assumption))))) w1.heap.size 1 En.cells rfl (Loc.new _ _ _) rfl HST.out.oneC (by omega) (by simp; omega) ?_; intro v' w2 hg2 hb2 ht2 hl2)
        have HG2 : Hid (StmtsG w2 w.heap.size v' (stsL (ts.take (k + 1)) x)) := by
          have h := StmtsG.add HE.out.2.1 HE.out.2.2.1 HE.out.2.2.2.1 HE.out.2.2.2.2 hb1 HEN.out.2.2 HEN.out.2.1 (by omega) (ch_alloc (Below.refl _ _) _) hg2 ht2 hl2
          show StmtsG _ _ _ _
          rw [HPL.out, ← HE.out.1, ← HEN.out.1]
          exact h
        have hb3 : Below w.heap.size w w2 := Below.trans (ch_alloc (ch_trans hb hb1) _) hb2
        go_round
        case rel => exact ⟨k + 1, by omega, by go_num, hb3, HG2⟩
        case measure => simp [intOf]; omega
      · have HPL : Hid (stsL (ts.take (k + 1)) x = stsL (ts.take k) x) := stsL_skip hlt hs
        have HG2 : Hid (StmtsG (wr.alloc (.cells #[.int .i64 ts[k].kind, .int .i64 ts[k].xid, .int .i64 ts[k].st.kind, .string ts[k].st.table, .slice (some ⟨kb, 0, none⟩) ts[k].st.key.length kp, .slice (some ⟨rb, 0, none⟩) ts[k].st.row.length rp, .int .i64 ts[k].st.ddl.kind, .string ts[k].st.ddl.table, .slice (some ⟨cb, 0, none⟩) ts[k].st.ddl.cols.length cp, .slice (some ⟨ob, 0, none⟩) ts[k].st.ddl.keys.length op, .string ts[k].st.ddl.name, .string ts[k].st.ddl.to] 44)) w.heap.size (.slice a' n' cap') (stsL (ts.take (k + 1)) x)) := by
          show StmtsG _ _ _ _
          rw [HPL.out]
          exact HG'.out.on (ch_alloc (Below.refl _ _) _)
        by_cases h1 : ts[k].kind = 2
        · have j1 : (ts[k].kind == 2) = true := by simpa using h1
          have j2 : (ts[k].xid == x) = false := by simp; exact fun h => hs ⟨h1, h⟩
          clear hs h1
          go_wp2
          go_round
          case rel => exact ⟨k + 1, by omega, by go_num, (by repeat (first | with_reducible exact Below.refl _ _ | with_reducible assumption | with_reducible refine ch_alloc ?_ _ | with_reducible refine Below.drew ?_ | with_reducible refine below_draws _ ?_ | (with_reducible refine Below.setCell ?_ ?_ _; rotate_left; focus (first | with_reducible exact Nat.le_refl _ | (simp; done) | (simp; omega) | (simp at *; omega))) | with_reducible refine ch_trans ?_ (by with_reducible assumption))), HG2⟩
          case measure => simp [intOf]; omega
        · have j1 : (ts[k].kind == 2) = false := by simpa using h1
          clear hs h1
          go_wp2
          go_round
          case rel => exact ⟨k + 1, by omega, by go_num, (by repeat (first | with_reducible exact Below.refl _ _ | with_reducible assumption | with_reducible refine ch_alloc ?_ _ | with_reducible refine Below.drew ?_ | with_reducible refine below_draws _ ?_ | (with_reducible refine Below.setCell ?_ ?_ _; rotate_left; focus (first | with_reducible exact Nat.le_refl _ | (simp; done) | (simp; omega) | (simp at *; omega))) | with_reducible refine ch_trans ?_ (by with_reducible assumption))), HG2⟩
          case measure => simp [intOf]; omega
    · have hlti : (ts.length : Int) ≤ k := by omega
      have HI : Hid (StmtsG wr w.heap.size (.slice a' n' cap') (stsL ts x)) := by
        have := HG'.out
        rwa [List.take_of_length_le (by omega)] at this
      go_wp2
      go_ret
      exact ⟨_, rfl, (by repeat (first | with_reducible exact Below.refl _ _ | with_reducible assumption | with_reducible refine ch_alloc ?_ _ | with_reducible refine Below.drew ?_ | with_reducible refine below_draws _ ?_ | (with_reducible refine Below.setCell ?_ ?_ _; rotate_left; focus (first | with_reducible exact Nat.le_refl _ | (simp; done) | (simp; omega) | (simp at *; omega))) | with_reducible refine ch_trans ?_ (by with_reducible assumption))), HI.out⟩
end Go.Proofs.Ytmcjchaokpcomaa
