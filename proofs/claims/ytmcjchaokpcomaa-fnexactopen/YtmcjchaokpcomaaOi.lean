/- The open transactions of a list of records, plainly; the given Open. -/
import Derived.Test.YtmcjchaokpcomaaRl
import Derived.Test.YtmcjchaokpcomaaCp
import Derived.Test.YtmcjchaokpcomaaCq
import Derived.Test.YtmcjchaokpcomaaFl
namespace Go.Proofs.Ytmcjchaokpcomaa
open Go.ChangeShapes Go.WideShapes Go.ChangeAt Go.RowKit

/-- What a record makes of the Xids that are open. -/
def openStep (o : List Int) (t : Lc) : List Int :=
  if t.kind = 1 then (if t.xid ∈ o then o else o ++ [t.xid]) else if t.kind = 3 ∨ t.kind = 4 then o.filter (fun x => decide (x ≠ t.xid)) else o
def openL (ts : List Lc) : List Int := ts.foldl openStep []
theorem openL_succ {ts : List Lc} {k : Nat} (hk : k < ts.length) : openL (ts.take (k + 1)) = openStep (openL (ts.take k)) ts[k] := by
  rw [List.take_succ_eq_append_getElem hk, openL, List.foldl_append]; rfl
theorem openStep_len (o : List Int) (t : Lc) : (openStep o t).length ≤ o.length + 1 := by
  unfold openStep
  split
  · split <;> simp
  · split
    · exact Nat.le_trans (List.length_filter_le _ _) (by omega)
    · omega
theorem openL_len (ts : List Lc) : ∀ k, k ≤ ts.length → (openL (ts.take k)).length ≤ k
  | 0, _ => by simp [openL]
  | k + 1, h => by
    rw [openL_succ (by omega)]
    exact Nat.le_trans (openStep_len _ _) (by have := openL_len ts k (by omega); omega)
theorem openStep_nodup {o : List Int} (h : o.Nodup) (t : Lc) : (openStep o t).Nodup := by
  unfold openStep
  split
  · split
    · exact h
    · rename_i hn
      rw [List.nodup_append]
      exact ⟨h, by simp, fun a ha b hb e => by simp at hb; subst hb; subst e; exact hn ha⟩
  · split
    · exact h.filter _
    · exact h
theorem openL_nodup (ts : List Lc) : ∀ k, k ≤ ts.length → (openL (ts.take k)).Nodup
  | 0, _ => by simp [openL]
  | k + 1, h => by
    rw [openL_succ (by omega)]
    exact openStep_nodup (openL_nodup ts k (by omega)) _

theorem Got.ints {w : World} {B : Nat} {T : TypeId} {v : Value} {is : List Int} (h : Got w B T 1 v (is.map intX)) : IntsV w v is := by
  obtain ⟨a, cap, e, h1, h2, h3, _⟩ := h.row
  exact ⟨a, cap, by simpa using e, by simpa using h1, h2, h3⟩

set_option maxRecDepth 100000 in
set_option maxHeartbeats 1000000 in
/-- spec.l07Has -/
theorem has_spec (x : Int) (v : Value) (is : List Int) (w : World) (hx : IntsV w v is) :
    Calls Try.prog 35 #[v, .int .i64 x] w fun e w' => e = .returned (.bool (decide (x ∈ is))) ∧ Below w.heap.size w w' := by
  obtain ⟨a, cap, rfl, hl, hm, hx⟩ := hx.lit
  unfold maxLen at hm
  have HX : Hid (RowAt w a 1 (is.map intX)) := hx.row
  have HT0 : Hid (∀ k (hk : k < is.length), is[k] = x → decide (x ∈ is) = true) := fun k hk e => by simp [← e]
  have HF0 : Hid ((∀ i (h : i < is.length), is[i] ≠ x) → decide (x ∈ is) = false) := fun h => by
    simp only [decide_eq_false_iff_not]
    intro hm
    obtain ⟨i, hi, e⟩ := List.getElem_of_mem hm
    exact h i hi e
  generalize decide (x ∈ is) = Q at HT0 HF0 ⊢
  clear hx
  go_enter Try.func35, Try.ntmps35
  go_wp2
  go_loopw [9] (fun i wr => ∃ k : Nat, k ≤ is.length ∧ i = .int .i64 k ∧ Below w.heap.size w wr ∧ Hid (∀ i (h : i < is.length), i < k → is[i] ≠ x)) (fun i _ => is.length - (intOf i).toNat)
  case atStart => exact ⟨0, Nat.zero_le _, rfl, (by repeat (first | with_reducible exact Below.refl _ _ | with_reducible assumption | with_reducible refine ch_alloc ?_ _ | with_reducible refine Below.drew ?_ | with_reducible refine below_draws _ ?_ | (with_reducible refine Below.setCell ?_ ?_ _; rotate_left; focus (first | with_reducible exact Nat.le_refl _ | (simp; done) | (simp; omega) | (simp at *; omega))) | with_reducible refine ch_trans ?_ (by with_reducible assumption))), fun i h hi => by omega⟩
  case round =>
    obtain ⟨k, hk, rfl, hb, HN⟩ := hrel
    by_cases hlt : k < is.length
    · have hlti : (k : Int) < is.length := by omega
      obtain ⟨b, off, rfl, d0⟩ := (HX.out.on hb).ints k hlt
      by_cases h2 : is[k] = x
      · have HQ : Q = true := HT0.out k hlt h2
        subst HQ
        have j2 : (is[k] == x) = true := by simpa using h2
        clear h2
        go_wp2
        go_ret
        exact ⟨rfl, (by repeat (first | with_reducible exact Below.refl _ _ | with_reducible assumption | with_reducible refine ch_alloc ?_ _ | with_reducible refine Below.drew ?_ | with_reducible refine below_draws _ ?_ | (with_reducible refine Below.setCell ?_ ?_ _; rotate_left; focus (first | with_reducible exact Nat.le_refl _ | (simp; done) | (simp; omega) | (simp at *; omega))) | with_reducible refine ch_trans ?_ (by with_reducible assumption)))⟩
      · have HN2 : Hid (∀ i (h : i < is.length), i < k + 1 → is[i] ≠ x) := fun i h hi => by
          by_cases e : i = k
          · subst e; exact h2
          · exact HN.out i h (by omega)
        have j2 : (is[k] == x) = false := by simpa using h2
        clear h2
        go_wp2
        go_round
        case rel => exact ⟨k + 1, by omega, by go_num, (by repeat (first | with_reducible exact Below.refl _ _ | with_reducible assumption | with_reducible refine ch_alloc ?_ _ | with_reducible refine Below.drew ?_ | with_reducible refine below_draws _ ?_ | (with_reducible refine Below.setCell ?_ ?_ _; rotate_left; focus (first | with_reducible exact Nat.le_refl _ | (simp; done) | (simp; omega) | (simp at *; omega))) | with_reducible refine ch_trans ?_ (by with_reducible assumption))), HN2⟩
        case measure => simp [intOf]; omega
    · have hlti : (is.length : Int) ≤ k := by omega
      have HQ : Q = false := HF0.out fun i h => HN.out i h (by omega)
      subst HQ
      go_wp2
      go_ret
      exact ⟨rfl, (by repeat (first | with_reducible exact Below.refl _ _ | with_reducible assumption | with_reducible refine ch_alloc ?_ _ | with_reducible refine Below.drew ?_ | with_reducible refine below_draws _ ?_ | (with_reducible refine Below.setCell ?_ ?_ _; rotate_left; focus (first | with_reducible exact Nat.le_refl _ | (simp; done) | (simp; omega) | (simp at *; omega))) | with_reducible refine ch_trans ?_ (by with_reducible assumption)))⟩

set_option maxRecDepth 100000 in
set_option maxHeartbeats 2000000 in
/-- spec.l07But -/
theorem but_spec (x : Int) (v : Value) (is : List Int) (w : World) (hx : IntsV w v is) (hn : is.length ≤ 2000000) :
    Calls Try.prog 36 #[v, .int .i64 x] w fun e w' => ∃ kv, e = .returned kv ∧ Below w.heap.size w w' ∧ Got w' w.heap.size 3 1 kv ((is.filter (fun y => decide (y ≠ x))).map intX) := by
  obtain ⟨a, cap, rfl, hl, hm, hx⟩ := hx.lit
  unfold maxLen at hm
  have HX : Hid (RowAt w a 1 (is.map intX)) := hx.row
  clear hx
  go_enter Try.func36, Try.ntmps36
  go_wp2
  have HG0 : Hid (Got (w.alloc (.cells #[] 3)) w.heap.size 3 1 (.slice (some ⟨w.heap.size, 0, none⟩) 0 0) (((is.take 0).filter (fun y => decide (y ≠ x))).map intX)) := Got.emptyAt _ _ _ rfl
  go_loopw [5, 11] (fun v i wr => ∃ k : Nat, k ≤ is.length ∧ i = .int .i64 k ∧ Below w.heap.size w wr ∧ Hid (Got wr w.heap.size 3 1 v (((is.take k).filter (fun y => decide (y ≠ x))).map intX))) (fun _ i _ => is.length - (intOf i).toNat)
  case atStart => exact ⟨0, Nat.zero_le _, rfl, (by repeat (first | with_reducible exact Below.refl _ _ | with_reducible assumption | with_reducible refine ch_alloc ?_ _ | with_reducible refine Below.drew ?_ | with_reducible refine below_draws _ ?_ | (with_reducible refine Below.setCell ?_ ?_ _; rotate_left; focus (first | with_reducible exact Nat.le_refl _ | (simp; done) | (simp; omega) | (simp at *; omega))) | with_reducible refine ch_trans ?_ (by with_reducible assumption))), HG0⟩
  case round =>
    clear HG0
    obtain ⟨k, hk, rfl, hb, HG⟩ := hrel
    obtain ⟨a', n', cap', rfl, hg⟩ := HG.out.lit2
    have HG' : Hid (Got wr w.heap.size 3 1 (.slice a' n' cap') (((is.take k).filter (fun y => decide (y ≠ x))).map intX)) := hg
    clear HG hg
    by_cases hlt : k < is.length
    · have hlti : (k : Int) < is.length := by omega
      obtain ⟨b, off, rfl, d0⟩ := (HX.out.on hb).ints k hlt
      have hfl : ((is.take k).filter (fun y => decide (y ≠ x))).length ≤ 2000000 := Nat.le_trans (List.length_filter_le _ _) (by simp; omega)
      by_cases h2 : is[k] = x
      · have HG2 : Hid (Got wr w.heap.size 3 1 (.slice a' n' cap') (((is.take (k + 1)).filter (fun y => decide (y ≠ x))).map intX)) := by
          show Got _ _ _ _ _ _
          rw [List.take_succ_eq_append_getElem hlt, List.filter_append]
          simpa [h2] using HG'.out
        have j2 : (is[k] != x) = false := by simpa using h2
        clear h2 hfl
        go_wp2
        go_round
        case rel => exact ⟨k + 1, by omega, by go_num, (by repeat (first | with_reducible exact Below.refl _ _ | with_reducible assumption | with_reducible refine ch_alloc ?_ _ | with_reducible refine Below.drew ?_ | with_reducible refine below_draws _ ?_ | (with_reducible refine Below.setCell ?_ ?_ _; rotate_left; focus (first | with_reducible exact Nat.le_refl _ | (simp; done) | (simp; omega) | (simp at *; omega))) | with_reducible refine ch_trans ?_ (by with_reducible assumption))), HG2⟩
        case measure => simp [intOf]; omega
      · have HPL : Hid (((is.take (k + 1)).filter (fun y => decide (y ≠ x))).map intX = ((is.take k).filter (fun y => decide (y ≠ x))).map intX ++ [intX is[k]]) := by
          show _ = _
          rw [List.take_succ_eq_append_getElem hlt, List.filter_append]
          simp [h2]
        have j2 : (is[k] != x) = true := by simpa using h2
        have hB : w.heap.size ≤ (wr.alloc (.cells #[.int .i64 is[k]] 3)).heap.size := by have := hb.size; simp; omega
        clear h2
        go_wp2_with (at_builtin; refine app_one rfl (.tmp 18) (.tmp 20) rfl Try.underlying50 infoInt rfl (by decide) (by decide) w.heap.size _ (((is.take k).filter (fun y => decide (y ≠ x))).map intX) rfl (HG'.out.on (ch_alloc (Below.refl _ _) _)) wr.heap.size 1 (intX is[k]) rfl (Loc.new _ _ _) rfl (fun u hu => by simp at hu; subst hu; rfl) (by rw [List.length_map]; omega) hB ?_; intro v' w2 hg2 hb2)
        have HG2 : Hid (Got w2 w.heap.size 3 1 v' (((is.take (k + 1)).filter (fun y => decide (y ≠ x))).map intX)) := by
          show Got _ _ _ _ _ _
          rw [HPL.out]; exact hg2
        have hb3 : Below w.heap.size w w2 := Below.trans (ch_alloc hb _) hb2
        go_round
        case rel => exact ⟨k + 1, by omega, by go_num, hb3, HG2⟩
        case measure => simp [intOf]; omega
    · have hlti : (is.length : Int) ≤ k := by omega
      have HI : Hid (Got wr w.heap.size 3 1 (.slice a' n' cap') ((is.filter (fun y => decide (y ≠ x))).map intX)) := by
        have := HG'.out
        rwa [List.take_of_length_le (by omega)] at this
      go_wp2
      go_ret
      exact ⟨_, rfl, (by repeat (first | with_reducible exact Below.refl _ _ | with_reducible assumption | with_reducible refine ch_alloc ?_ _ | with_reducible refine Below.drew ?_ | with_reducible refine below_draws _ ?_ | (with_reducible refine Below.setCell ?_ ?_ _; rotate_left; focus (first | with_reducible exact Nat.le_refl _ | (simp; done) | (simp; omega) | (simp at *; omega))) | with_reducible refine ch_trans ?_ (by with_reducible assumption))), HI.out⟩

set_option maxRecDepth 100000 in
set_option maxHeartbeats 4000000 in
/-- spec.Open -/
theorem open_spec (v : Value) (ts : List Lc) (w : World) (hx : RecsV w v ts) (hn : ts.length ≤ 1048576) :
    Calls Try.prog 13 #[v] w fun e w' => ∃ kv, e = .returned kv ∧ Below w.heap.size w w' ∧ Got w' w.heap.size 3 1 kv ((openL ts).map intX) := by
  obtain ⟨a, cap, rfl, hl, hm, hx⟩ := hx.lit
  unfold maxLen at hm
  have HX : Hid (RecsV w (.slice a ts.length cap) ts) := hx
  clear hx
  go_enter Try.func13, Try.ntmps13
  go_wp2
  have HG0 : Hid (Got (w.alloc (.cells #[] 3)) w.heap.size 3 1 (.slice (some ⟨w.heap.size, 0, none⟩) 0 0) ((openL (ts.take 0)).map intX)) := Got.emptyAt _ _ _ rfl
  go_loopw [3, 9] (fun v i wr => ∃ k : Nat, k ≤ ts.length ∧ i = .int .i64 k ∧ Below w.heap.size w wr ∧ Hid (Got wr w.heap.size 3 1 v ((openL (ts.take k)).map intX))) (fun _ i _ => ts.length - (intOf i).toNat)
  case atStart => exact ⟨0, Nat.zero_le _, rfl, (by repeat (first | with_reducible exact Below.refl _ _ | with_reducible assumption | with_reducible refine ch_alloc ?_ _ | with_reducible refine Below.drew ?_ | with_reducible refine below_draws _ ?_ | (with_reducible refine Below.setCell ?_ ?_ _; rotate_left; focus (first | with_reducible exact Nat.le_refl _ | (simp; done) | (simp; omega) | (simp at *; omega))) | with_reducible refine ch_trans ?_ (by with_reducible assumption))), HG0⟩
  case round =>
    clear HG0
    obtain ⟨k, hk, rfl, hb, HG⟩ := hrel
    obtain ⟨a', n', cap', rfl, hg⟩ := HG.out.lit2
    have HG' : Hid (Got wr w.heap.size 3 1 (.slice a' n' cap') ((openL (ts.take k)).map intX)) := hg
    clear HG hg
    by_cases hlt : k < ts.length
    · have hlti : (k : Int) < ts.length := by omega
      obtain ⟨b, off, ka, kp, ra, rp, ca, cp, oa, op, rfl, _, d0, d1, d2, d3, d4, d5, d6, d7, d8, d9, d10, d11⟩ := (HX.out.on hb).rec k hlt
      have hs := openL_succ hlt
      have hlen := openL_len ts k hk
      generalize openL (ts.take k) = o at HG' hs hlen
      have HS : Hid (openL (ts.take (k + 1)) = openStep o ts[k]) := hs
      have hol : o.length ≤ 1048576 := by omega
      have HHAS : Hid (∀ u : World, Below wr.heap.size wr u → Calls Try.prog 35 #[.slice a' n' cap', .int .i64 ts[k].xid] u fun e w' => e = .returned (.bool (decide (ts[k].xid ∈ o))) ∧ Below u.heap.size u w') := fun u hu => has_spec _ _ o u (HG'.out.on hu).ints
      have HBUT : Hid (∀ u : World, Below wr.heap.size wr u → Calls Try.prog 36 #[.slice a' n' cap', .int .i64 ts[k].xid] u fun e w' => ∃ kv, e = .returned kv ∧ Below u.heap.size u w' ∧ Got w' u.heap.size 3 1 kv ((o.filter (fun y => decide (y ≠ ts[k].xid))).map intX)) := fun u hu => but_spec _ _ o u (HG'.out.on hu).ints (by omega)
      clear hs hlen
      obtain ⟨o', ho'⟩ : ∃ o', o' = openL (ts.take (k + 1)) := ⟨_, rfl⟩
      have HE : Hid (o' = openL (ts.take (k + 1))) := ho'
      rw [← ho'] at HS
      clear ho'
      have hwr := hb.size
      by_cases h1 : ts[k].kind = 1
      · have j1 : (ts[k].kind == 1) = true := by simpa using h1
        have j3 : (ts[k].kind == 3) = false := by simp [h1]
        have j4 : (ts[k].kind == 4) = false := by simp [h1]
        by_cases h2 : ts[k].xid ∈ o
        · have HO : o' = o := by rw [HS.out]; simp [openStep, h1, h2]
          subst HO
          have HH2 : Hid (∀ u : World, Below wr.heap.size wr u → Calls Try.prog 35 #[.slice a' n' cap', .int .i64 ts[k].xid] u fun e w' => e = .returned (.bool true) ∧ Below u.heap.size u w') := fun u hu => (HHAS.out u hu).mono fun e w' h => by simpa [h2] using h
          have HRA : Hid (Own (wr.alloc (.cells #[.int .i64 ts[k].kind, .int .i64 ts[k].xid, .int .i64 ts[k].st.kind, .string ts[k].st.table, .slice ka ts[k].st.key.length kp, .slice ra ts[k].st.row.length rp, .int .i64 ts[k].st.ddl.kind, .string ts[k].st.ddl.table, .slice ca ts[k].st.ddl.cols.length cp, .slice oa ts[k].st.ddl.keys.length op, .string ts[k].st.ddl.name, .string ts[k].st.ddl.to] 44)) wr.heap.size 44 #[.int .i64 ts[k].kind, .int .i64 ts[k].xid, .int .i64 ts[k].st.kind, .string ts[k].st.table, .slice ka ts[k].st.key.length kp, .slice ra ts[k].st.row.length rp, .int .i64 ts[k].st.ddl.kind, .string ts[k].st.ddl.table, .slice ca ts[k].st.ddl.cols.length cp, .slice oa ts[k].st.ddl.keys.length op, .string ts[k].st.ddl.name, .string ts[k].st.ddl.to]) := Own.new _ _ _
          clear h1 h2 HHAS HBUT HS
          go_wp2_with fail
          refine (HH2.out _ (by repeat (first | with_reducible exact Below.refl _ _ | with_reducible assumption | with_reducible refine ch_alloc ?_ _ | with_reducible refine Below.drew ?_ | with_reducible refine below_draws _ ?_ | (with_reducible refine Below.setCell ?_ ?_ _; rotate_left; focus (first | with_reducible exact Nat.le_refl _ | (simp; done) | (simp; omega) | (simp at *; omega))) | with_reducible refine ch_trans ?_ (by with_reducible assumption)))).mono ?_
          rintro e w1 ⟨rfl, b1⟩
          have hb1 : Below wr.heap.size wr w1 := (by repeat (first | with_reducible exact Below.refl _ _ | with_reducible assumption | with_reducible refine ch_alloc ?_ _ | with_reducible refine Below.drew ?_ | with_reducible refine below_draws _ ?_ | (with_reducible refine Below.setCell ?_ ?_ _; rotate_left; focus (first | with_reducible exact Nat.le_refl _ | (simp; done) | (simp; omega) | (simp at *; omega))) | with_reducible refine ch_trans ?_ (by with_reducible assumption)))
          have HG1 := HG'.out.on hb1
          have HG2 : Hid _ := HG1
          obtain ⟨g0, g1, g2, g3, g4, g5, g6, g7, g8, g9, g10, g11⟩ := (HRA.out.on b1).loc.twelve
          clear HG1 HRA
          go_wp2
          go_round
          case rel => exact ⟨k + 1, by omega, by go_num, ch_trans hb hb1, HE.out ▸ HG2⟩
          case measure => simp [intOf]; omega
        · have HO : Hid (o'.map intX = o.map intX ++ [intX ts[k].xid]) := by
            show _ = _
            rw [HS.out]; simp [openStep, h1, h2]
          have HH2 : Hid (∀ u : World, Below wr.heap.size wr u → Calls Try.prog 35 #[.slice a' n' cap', .int .i64 ts[k].xid] u fun e w' => e = .returned (.bool false) ∧ Below u.heap.size u w') := fun u hu => (HHAS.out u hu).mono fun e w' h => by simpa [h2] using h
          have HRA : Hid (Own (wr.alloc (.cells #[.int .i64 ts[k].kind, .int .i64 ts[k].xid, .int .i64 ts[k].st.kind, .string ts[k].st.table, .slice ka ts[k].st.key.length kp, .slice ra ts[k].st.row.length rp, .int .i64 ts[k].st.ddl.kind, .string ts[k].st.ddl.table, .slice ca ts[k].st.ddl.cols.length cp, .slice oa ts[k].st.ddl.keys.length op, .string ts[k].st.ddl.name, .string ts[k].st.ddl.to] 44)) wr.heap.size 44 #[.int .i64 ts[k].kind, .int .i64 ts[k].xid, .int .i64 ts[k].st.kind, .string ts[k].st.table, .slice ka ts[k].st.key.length kp, .slice ra ts[k].st.row.length rp, .int .i64 ts[k].st.ddl.kind, .string ts[k].st.ddl.table, .slice ca ts[k].st.ddl.cols.length cp, .slice oa ts[k].st.ddl.keys.length op, .string ts[k].st.ddl.name, .string ts[k].st.ddl.to]) := Own.new _ _ _
          have HNB : Hid (∀ c, (Value.slice a' n' cap').ownBlock = some c → c < wr.heap.size) := fun c hc => by
            obtain ⟨cur, hh⟩ := HG'.out.tag hc
            exact (Array.getElem?_eq_some_iff.1 hh).1
          clear h1 h2 HHAS HBUT HS
          go_wp2_with fail
          refine (HH2.out _ (by repeat (first | with_reducible exact Below.refl _ _ | with_reducible assumption | with_reducible refine ch_alloc ?_ _ | with_reducible refine Below.drew ?_ | with_reducible refine below_draws _ ?_ | (with_reducible refine Below.setCell ?_ ?_ _; rotate_left; focus (first | with_reducible exact Nat.le_refl _ | (simp; done) | (simp; omega) | (simp at *; omega))) | with_reducible refine ch_trans ?_ (by with_reducible assumption)))).mono ?_
          rintro e w1 ⟨rfl, b1⟩
          have hb1 : Below wr.heap.size wr w1 := (by repeat (first | with_reducible exact Below.refl _ _ | with_reducible assumption | with_reducible refine ch_alloc ?_ _ | with_reducible refine Below.drew ?_ | with_reducible refine below_draws _ ?_ | (with_reducible refine Below.setCell ?_ ?_ _; rotate_left; focus (first | with_reducible exact Nat.le_refl _ | (simp; done) | (simp; omega) | (simp at *; omega))) | with_reducible refine ch_trans ?_ (by with_reducible assumption)))
          have HG1 : Hid (Got w1 w.heap.size 3 1 (.slice a' n' cap') (o.map intX)) := HG'.out.on hb1
          have HRB : Hid (Own w1 wr.heap.size 44 #[.int .i64 ts[k].kind, .int .i64 ts[k].xid, .int .i64 ts[k].st.kind, .string ts[k].st.table, .slice ka ts[k].st.key.length kp, .slice ra ts[k].st.row.length rp, .int .i64 ts[k].st.ddl.kind, .string ts[k].st.ddl.table, .slice ca ts[k].st.ddl.cols.length cp, .slice oa ts[k].st.ddl.keys.length op, .string ts[k].st.ddl.name, .string ts[k].st.ddl.to]) := HRA.out.on b1
          obtain ⟨g0, g1, g2, g3, g4, g5, g6, g7, g8, g9, g10, g11⟩ := HRB.out.loc.twelve
          clear HRA
          have hB : w.heap.size ≤ (w1.alloc (.cells #[.int .i64 ts[k].xid] 3)).heap.size := by have := hb1.size; simp; omega
          go_wp2_with (at_builtin; refine app_turn rfl (.tmp 23) (.tmp 26) rfl Try.underlying50 infoInt rfl (by decide) (by decide) w.heap.size _ (o.map intX) rfl (HG1.out.on (ch_alloc (Below.refl _ _) _)) w1.heap.size 1 (intX ts[k].xid) rfl (Loc.new _ _ _) rfl (fun u hu => by simp at hu; subst hu; rfl) (by rw [List.length_map]; omega) hB ?_; intro v' w2 hg2 hb2 ht2; have HRC : Own w2 wr.heap.size 44 #[.int .i64 ts[k].kind, .int .i64 ts[k].xid, .int .i64 ts[k].st.kind, .string ts[k].st.table, .slice ka ts[k].st.key.length kp, .slice ra ts[k].st.row.length rp, .int .i64 ts[k].st.ddl.kind, .string ts[k].st.ddl.table, .slice ca ts[k].st.ddl.cols.length cp, .slice oa ts[k].st.ddl.keys.length op, .string ts[k].st.ddl.name, .string ts[k].st.ddl.to] := (HRB.out.on (ch_alloc (Below.refl _ _) _)).turned ht2 (fun hc => by have := HNB.out _ hc; omega); obtain ⟨e0, e1, e2, e3, e4, e5, e6, e7, e8, e9, e10, e11⟩ := HRC.loc.twelve)
          have HG2 : Hid (Got w2 w.heap.size 3 1 v' (o'.map intX)) := by
            show Got _ _ _ _ _ _
            rw [HO.out]; exact hg2
          have hb3 : Below w.heap.size w w2 := Below.trans (ch_alloc (ch_trans hb hb1) _) hb2
          go_round
          case rel => exact ⟨k + 1, by omega, by go_num, hb3, HE.out ▸ HG2⟩
          case measure => simp [intOf]; omega
      · have j1 : (ts[k].kind == 1) = false := by simpa using h1
        by_cases h3 : ts[k].kind = 3 ∨ ts[k].kind = 4
        · have HO : Hid (o' = o.filter (fun y => decide (y ≠ ts[k].xid))) := by
            show _ = _
            rw [HS.out, openStep, if_neg h1, if_pos h3]
          obtain ⟨q3, q4, j3, j4, hq⟩ : ∃ q3 q4 : Bool, (ts[k].kind == 3) = q3 ∧ (ts[k].kind == 4) = q4 ∧ (q3 = true ∨ (q3 = false ∧ q4 = true)) := ⟨_, _, rfl, rfl, by
            rcases h3 with h | h <;> simp [h]⟩
          clear h1 h3 HHAS HS
          rcases hq with rfl | ⟨rfl, rfl⟩
          all_goals
            go_wp2_with fail
            refine (HBUT.out _ (by repeat (first | with_reducible exact Below.refl _ _ | with_reducible assumption | with_reducible refine ch_alloc ?_ _ | with_reducible refine Below.drew ?_ | with_reducible refine below_draws _ ?_ | (with_reducible refine Below.setCell ?_ ?_ _; rotate_left; focus (first | with_reducible exact Nat.le_refl _ | (simp; done) | (simp; omega) | (simp at *; omega))) | with_reducible refine ch_trans ?_ (by with_reducible assumption)))).mono ?_
            rintro e w1 ⟨kv, rfl, b1, hg1⟩
            have hb1 : Below wr.heap.size wr w1 := (by repeat (first | with_reducible exact Below.refl _ _ | with_reducible assumption | with_reducible refine ch_alloc ?_ _ | with_reducible refine Below.drew ?_ | with_reducible refine below_draws _ ?_ | (with_reducible refine Below.setCell ?_ ?_ _; rotate_left; focus (first | with_reducible exact Nat.le_refl _ | (simp; done) | (simp; omega) | (simp at *; omega))) | with_reducible refine ch_trans ?_ (by with_reducible assumption)))
            have HG2 : Hid (Got w1 w.heap.size 3 1 kv (o'.map intX)) := by
              show Got _ _ _ _ _ _
              rw [HO.out]; exact hg1.mono (by simp; omega)
            clear hg1 b1
            go_wp2
            go_round
            case rel => exact ⟨k + 1, by omega, by go_num, ch_trans hb hb1, HE.out ▸ HG2⟩
            case measure => simp [intOf]; omega
        · have HO : o' = o := by rw [HS.out, openStep, if_neg h1, if_neg h3]
          subst HO
          have j3 : (ts[k].kind == 3) = false := by simp; omega
          have j4 : (ts[k].kind == 4) = false := by simp; omega
          clear h1 h3 HHAS HBUT HS
          have HG2 : Hid (Got (wr.alloc (.cells #[.int .i64 ts[k].kind, .int .i64 ts[k].xid, .int .i64 ts[k].st.kind, .string ts[k].st.table, .slice ka ts[k].st.key.length kp, .slice ra ts[k].st.row.length rp, .int .i64 ts[k].st.ddl.kind, .string ts[k].st.ddl.table, .slice ca ts[k].st.ddl.cols.length cp, .slice oa ts[k].st.ddl.keys.length op, .string ts[k].st.ddl.name, .string ts[k].st.ddl.to] 44)) w.heap.size 3 1 (.slice a' n' cap') (o'.map intX)) := HG'.out.on (ch_alloc (Below.refl _ _) _)
          go_wp2
          go_round
          case rel => exact ⟨k + 1, by omega, by go_num, (by repeat (first | with_reducible exact Below.refl _ _ | with_reducible assumption | with_reducible refine ch_alloc ?_ _ | with_reducible refine Below.drew ?_ | with_reducible refine below_draws _ ?_ | (with_reducible refine Below.setCell ?_ ?_ _; rotate_left; focus (first | with_reducible exact Nat.le_refl _ | (simp; done) | (simp; omega) | (simp at *; omega))) | with_reducible refine ch_trans ?_ (by with_reducible assumption))), HE.out ▸ HG2⟩
          case measure => simp [intOf]; omega
    · have hlti : (ts.length : Int) ≤ k := by omega
      have HI : Hid (Got wr w.heap.size 3 1 (.slice a' n' cap') ((openL ts).map intX)) := by
        have := HG'.out
        rwa [List.take_of_length_le (by omega)] at this
      go_wp2
      go_ret
      exact ⟨_, rfl, (by repeat (first | with_reducible exact Below.refl _ _ | with_reducible assumption | with_reducible refine ch_alloc ?_ _ | with_reducible refine Below.drew ?_ | with_reducible refine below_draws _ ?_ | (with_reducible refine Below.setCell ?_ ?_ _; rotate_left; focus (first | with_reducible exact Nat.le_refl _ | (simp; done) | (simp; omega) | (simp at *; omega))) | with_reducible refine ch_trans ?_ (by with_reducible assumption))), HI.out⟩
end Go.Proofs.Ytmcjchaokpcomaa
