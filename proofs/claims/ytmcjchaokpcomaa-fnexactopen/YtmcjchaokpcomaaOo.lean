/- The landed Open. -/
import Derived.Test.YtmcjchaokpcomaaPasC
import Derived.Test.YtmcjchaokpcomaaIn
namespace Go.Proofs.Ytmcjchaokpcomaa
open Go.ChangeShapes Go.WideShapes Go.ChangeAt Go.RowKit

set_option maxRecDepth 100000 in
set_option maxHeartbeats 2000000 in
/-- (impl.openList).xids -/
theorem xids_any (v : Value) (L : List (Xc × Value)) (w : World) (hx : TrV w v L) (hn : L.length ≤ 2000000) (hsl : ∀ p ∈ L, ∃ a n c, p.2 = .slice a n c) :
    Calls Try.prog 38 #[v] w fun e w' => ∃ kv, e = .returned kv ∧ Below w.heap.size w w' ∧ Got w' w.heap.size 3 1 kv ((L.map fun p => p.1.xid).map intX) := by
  obtain ⟨a, cap, rfl, hl, hm, hx⟩ := hx
  unfold maxLen at hm
  have HX : Hid (RowAt w a 2 (L.map tcell)) := hx
  have HSL : Hid (∀ p ∈ L, ∃ a n c, p.2 = Value.slice a n c) := hsl
  clear hx hsl
  go_enter Try.func38, Try.ntmps38
  go_wp2
  have HG0 : Hid (Got w w.heap.size 3 1 (.slice none 0 0) (((L.take 0).map fun p => p.1.xid).map intX)) := Got.nil _ _ _ _
  go_loopw [3, 8] (fun v i wr => ∃ k : Nat, k ≤ L.length ∧ i = .int .i64 k ∧ Below w.heap.size w wr ∧ Hid (Got wr w.heap.size 3 1 v (((L.take k).map fun p => p.1.xid).map intX))) (fun _ i _ => L.length - (intOf i).toNat)
  case atStart => exact ⟨0, Nat.zero_le _, rfl, (by repeat (first | with_reducible exact Below.refl _ _ | with_reducible assumption | with_reducible refine ch_alloc ?_ _ | with_reducible refine Below.drew ?_ | with_reducible refine below_draws _ ?_ | (with_reducible refine Below.setCell ?_ ?_ _; rotate_left; focus (first | with_reducible exact Nat.le_refl _ | (simp; done) | (simp; omega) | (simp at *; omega))) | with_reducible refine ch_trans ?_ (by with_reducible assumption))), HG0⟩
  case round =>
    clear HG0
    obtain ⟨k, hk, rfl, hb, HG⟩ := hrel
    obtain ⟨a', n', cap', rfl, hg⟩ := HG.out.lit2
    have HG' : Hid (Got wr w.heap.size 3 1 (.slice a' n' cap') (((L.take k).map fun p => p.1.xid).map intX)) := hg
    clear HG hg
    by_cases hlt : k < L.length
    · have hlti : (k : Int) < L.length := by omega
      obtain ⟨b, off, rfl, d0, d1⟩ := (HX.out.on hb).tr k hlt
      obtain ⟨sa, sn, sc, hse⟩ := HSL.out _ (List.getElem_mem hlt)
      rw [hse] at d1
      have HPL : Hid (((L.take (k + 1)).map fun p => p.1.xid).map intX = ((L.take k).map fun p => p.1.xid).map intX ++ [intX L[k].1.xid]) := by
        show _ = _
        rw [List.take_succ_eq_append_getElem hlt, List.map_append, List.map_append]
        rfl
      have hB : w.heap.size ≤ ((wr.alloc (.cells #[.int .i64 L[k].1.xid, .slice sa sn sc] 96)).alloc (.cells #[.int .i64 L[k].1.xid] 3)).heap.size := by have := hb.size; simp; omega
      have hlen : (((L.take k).map fun p => p.1.xid).map intX).length < 900000000 := by simp; omega
      go_wp2_with (at_builtin; refine app_one rfl (.tmp 12) (.tmp 15) rfl Try.underlying50 infoInt rfl (by decide) (by decide) w.heap.size _ (((L.take k).map fun p => p.1.xid).map intX) rfl (HG'.out.on (by repeat (first | with_reducible exact Below.refl _ _ | with_reducible assumption | with_reducible refine ch_alloc ?_ _ | with_reducible refine Below.drew ?_ | with_reducible refine below_draws _ ?_ | (with_reducible refine Below.setCell ?_ ?_ _; rotate_left; focus (first | with_reducible exact Nat.le_refl _ | (simp; done) | (simp; omega) | (simp at *; omega))) | with_reducible refine ch_trans ?_ (by with_reducible assumption)))) (wr.heap.size + 1) 1 (intX L[k].1.xid) rfl (Own.at (wr.alloc (.cells #[.int .i64 L[k].1.xid, .slice sa sn sc] 96)) _ _ (by simp)).loc rfl (fun u hu => by simp at hu; subst hu; rfl) (by omega) hB ?_; intro v' w2 hg2 hb2)
      have HG2 : Hid (Got w2 w.heap.size 3 1 v' (((L.take (k + 1)).map fun p => p.1.xid).map intX)) := by
        show Got _ _ _ _ _ _
        rw [HPL.out]; exact hg2
      have hb3 : Below w.heap.size w w2 := Below.trans (ch_alloc (ch_alloc hb _) _) hb2
      go_round
      case rel => exact ⟨k + 1, by omega, by go_num, hb3, HG2⟩
      case measure => simp [intOf]; omega
    · have hlti : (L.length : Int) ≤ k := by omega
      have HI : Hid (Got wr w.heap.size 3 1 (.slice a' n' cap') ((L.map fun p => p.1.xid).map intX)) := by
        have := HG'.out
        rwa [List.take_of_length_le (by omega)] at this
      go_wp2
      go_ret
      exact ⟨_, rfl, (by repeat (first | with_reducible exact Below.refl _ _ | with_reducible assumption | with_reducible refine ch_alloc ?_ _ | with_reducible refine Below.drew ?_ | with_reducible refine below_draws _ ?_ | (with_reducible refine Below.setCell ?_ ?_ _; rotate_left; focus (first | with_reducible exact Nat.le_refl _ | (simp; done) | (simp; omega) | (simp at *; omega))) | with_reducible refine ch_trans ?_ (by with_reducible assumption))), HI.out⟩

/-- The transactions that a list of records leaves open. -/
def passes (ts : List Lc) : List Xc := ts.foldl passL []
theorem passes_succ {ts : List Lc} {k : Nat} (hk : k < ts.length) : passes (ts.take (k + 1)) = passL (passes (ts.take k)) ts[k] := by
  rw [List.take_succ_eq_append_getElem hk, passes, List.foldl_append]; rfl
theorem passL_xids {os : List Xc} (h : (os.map fun o => o.xid).Nodup) (t : Lc) : (passL os t).map (fun o => o.xid) = openStep (os.map fun o => o.xid) t := by
  rcases xAt_cases os t.xid with ⟨_, hN⟩ | ⟨i, hi, hA0, he, hN⟩
  · have hm : t.xid ∉ os.map fun o => o.xid := fun hm => by
      obtain ⟨o, ho, e⟩ := List.mem_map.1 hm
      obtain ⟨j, hj, rfl⟩ := List.getElem_of_mem ho
      exact hN j hj e
    rw [passL_none hN]
    unfold openStep
    by_cases h1 : t.kind = 1
    · rw [if_pos h1, if_pos h1, if_neg hm]; simp
    · rw [if_neg h1, if_neg h1]
      by_cases h3 : t.kind = 3 ∨ t.kind = 4
      · rw [if_pos h3, List.filter_eq_self.2 (fun x hx => by simp; exact fun e => hm (e ▸ hx))]
      · rw [if_neg h3]
  · have hm : t.xid ∈ os.map fun o => o.xid := List.mem_map.2 ⟨_, List.getElem_mem hi, he⟩
    rw [passL_some hi he hN]
    unfold openStep
    by_cases h2 : t.kind = 2
    · rw [if_pos h2, if_neg (by omega), if_neg (by omega), List.map_set]
      apply List.ext_getElem?
      intro n
      rw [List.getElem?_set]
      split
      · rename_i e; subst e; simp [hi]
      · rfl
    · rw [if_neg h2]
      by_cases h3 : t.kind = 3 ∨ t.kind = 4
      · rw [if_pos h3, if_neg (by omega), if_pos h3]
        have hi' : i < (os.map fun o => o.xid).length := by simpa using hi
        have hx : (os.map fun o => o.xid)[i] = t.xid := by simpa using he
        have : (os.eraseIdx i).map (fun o => o.xid) = (os.map fun o => o.xid).eraseIdx i := by
          rw [List.eraseIdx_eq_take_drop_succ, List.eraseIdx_eq_take_drop_succ, List.map_append, List.map_take, List.map_drop]
        rw [this, ← hx]
        generalize (os.map fun o => o.xid) = l at h hi'
        clear this hx hm he hN hi hA0
        induction l generalizing i with
        | nil => simp at hi'
        | cons y r ih =>
          rw [List.nodup_cons] at h
          cases i with
          | zero =>
            simp only [List.eraseIdx_cons_zero, List.getElem_cons_zero, List.filter_cons]
            rw [if_neg (by simp), List.filter_eq_self.2 (fun x hx => by simp; exact fun e => h.1 (e ▸ hx))]
          | succ i =>
            have hi2 : i < r.length := by simpa using hi'
            simp only [List.eraseIdx_cons_succ, List.getElem_cons_succ, List.filter_cons]
            rw [if_pos (by simp; exact fun e => h.1 (e ▸ List.getElem_mem hi2)), ih i h.2 hi2]
      · rw [if_neg h3]
        by_cases h1 : t.kind = 1
        · rw [if_pos h1, if_pos hm]
        · rw [if_neg h1, if_neg h3]
theorem passes_xids (ts : List Lc) : ∀ k, k ≤ ts.length → ((passes (ts.take k)).map fun o => o.xid) = openL (ts.take k)
  | 0, _ => by simp [passes, openL]
  | k + 1, h => by
    have ih := passes_xids ts k (by omega)
    rw [passes_succ (by omega), openL_succ (by omega), passL_xids (by rw [ih]; exact openL_nodup ts k (by omega)), ih]
theorem passL_few {os : List Xc} {t : Lc} {n : Nat} (h : ∀ o ∈ os, o.sts.length ≤ n) : ∀ o ∈ passL os t, o.sts.length ≤ n + 1 := by
  intro o ho
  rcases xAt_cases os t.xid with ⟨_, hN⟩ | ⟨i, hi, _, he, hN⟩
  · rw [passL_none hN] at ho
    split at ho
    · rcases List.mem_append.1 ho with ho | ho
      · have := h o ho; omega
      · simp at ho; subst ho; simp
    · have := h o ho; omega
  · rw [passL_some hi he hN] at ho
    split at ho
    · rcases List.mem_or_eq_of_mem_set ho with ho | ho
      · have := h o ho; omega
      · subst ho
        have := h _ (List.getElem_mem hi)
        simp; omega
    · split at ho
      · have := h o (List.mem_of_mem_eraseIdx ho); omega
      · have := h o ho; omega
theorem passes_few (ts : List Lc) : ∀ k, k ≤ ts.length → ∀ o ∈ passes (ts.take k), o.sts.length ≤ k
  | 0, _ => by simp [passes]
  | k + 1, h => by
    rw [passes_succ (by omega)]
    exact passL_few (passes_few ts k (by omega))
theorem passL_len (os : List Xc) (t : Lc) : (passL os t).length ≤ os.length + 1 := by
  rcases xAt_cases os t.xid with ⟨_, hN⟩ | ⟨i, hi, _, he, hN⟩
  · rw [passL_none hN]; split <;> simp
  · rw [passL_some hi he hN]
    split
    · simp
    · split
      · rw [List.length_eraseIdx]; split <;> omega
      · omega
theorem passes_len (ts : List Lc) : ∀ k, k ≤ ts.length → (passes (ts.take k)).length ≤ k
  | 0, _ => by simp [passes]
  | k + 1, h => by
    rw [passes_succ (by omega)]
    exact Nat.le_trans (passL_len _ _) (by have := passes_len ts k (by omega); omega)

set_option maxRecDepth 100000 in
set_option maxHeartbeats 2000000 in
/-- impl.Open -/
theorem open_impl (v : Value) (ts : List Lc) (w : World) (hx : RecsV w v ts) (hn : ts.length ≤ 1048576) :
    Calls Try.prog 15 #[v] w fun e w' => ∃ kv, e = .returned kv ∧ Below w.heap.size w w' ∧ Got w' w.heap.size 3 1 kv ((openL ts).map intX) := by
  obtain ⟨a, cap, rfl, hl, hm, hx⟩ := hx.lit
  unfold maxLen at hm
  have HX : Hid (RecsV w (.slice a ts.length cap) ts) := hx
  clear hx
  go_enter Try.func15, Try.ntmps15
  go_wp2
  have HI0 : Hid (∃ vv, Own (w.alloc (.cells #[.slice none 0 0] 72)) w.heap.size 72 #[vv] ∧ OpenG w (w.alloc (.cells #[.slice none 0 0] 72)) (w.heap.size + 1) vv (passes (ts.take 0))) := ⟨_, Own.new _ _ _, by simpa [passes] using OpenG.nil w _ _⟩
  go_loopw [8] (fun i wr => ∃ k : Nat, k ≤ ts.length ∧ i = .int .i64 k ∧ Below w.heap.size w wr ∧ Hid (∃ vv, Own wr w.heap.size 72 #[vv] ∧ OpenG w wr (w.heap.size + 1) vv (passes (ts.take k)))) (fun i _ => ts.length - (intOf i).toNat)
  case atStart => exact ⟨0, Nat.zero_le _, rfl, (by repeat (first | with_reducible exact Below.refl _ _ | with_reducible assumption | with_reducible refine ch_alloc ?_ _ | with_reducible refine Below.drew ?_ | with_reducible refine below_draws _ ?_ | (with_reducible refine Below.setCell ?_ ?_ _; rotate_left; focus (first | with_reducible exact Nat.le_refl _ | (simp; done) | (simp; omega) | (simp at *; omega))) | with_reducible refine ch_trans ?_ (by with_reducible assumption))), HI0⟩
  case round =>
    clear HI0
    obtain ⟨k, hk, rfl, hb, HI⟩ := hrel
    obtain ⟨vv, ho, hg⟩ := HI.out
    have HO : Hid (Own wr w.heap.size 72 #[vv]) := ho
    have HG : Hid (OpenG w wr (w.heap.size + 1) vv (passes (ts.take k))) := hg
    have hsw := ho.lt
    clear HI hg ho
    by_cases hlt : k < ts.length
    · have hlti : (k : Int) < ts.length := by omega
      obtain ⟨b, off, ka, kp, ra, rp, ca, cp, oa, op, rfl, _, d0, d1, d2, d3, d4, d5, d6, d7, d8, d9, d10, d11⟩ := (HX.out.on hb).rec k hlt
      obtain ⟨b', off', la, lp, ma, mp, na, np, oa', op', e', hxr, f0, f1, f2, f3, f4, f5, f6, f7, f8, f9, f10, f11⟩ := HX.out.rec k hlt
      cases e'
      have q4 := d4.symm.trans (cell_on f4 hb)
      have q5 := d5.symm.trans (cell_on f5 hb)
      have q8 := d8.symm.trans (cell_on f8 hb)
      have q9 := d9.symm.trans (cell_on f9 hb)
      simp only [Option.some.injEq, Value.slice.injEq] at q4 q5 q8 q9
      obtain ⟨rfl, _, rfl⟩ := q4
      obtain ⟨rfl, _, rfl⟩ := q5
      obtain ⟨rfl, _, rfl⟩ := q8
      obtain ⟨rfl, _, rfl⟩ := q9
      have HR : Hid (RecV w #[.int .i64 ts[k].kind, .int .i64 ts[k].xid, .int .i64 ts[k].st.kind, .string ts[k].st.table, .slice ka ts[k].st.key.length kp, .slice ra ts[k].st.row.length rp, .int .i64 ts[k].st.ddl.kind, .string ts[k].st.ddl.table, .slice ca ts[k].st.ddl.cols.length cp, .slice oa ts[k].st.ddl.keys.length op, .string ts[k].st.ddl.name, .string ts[k].st.ddl.to] ts[k]) := hxr
      have hpl := passes_len ts k hk
      have HPF : Hid (∀ o ∈ passes (ts.take k), o.sts.length ≤ 2000000) := fun o ho => by have := passes_few ts k hk o ho; omega
      have hs := passes_succ hlt
      have HP : Hid (∀ u : World, Below wr.heap.size wr u → Calls Try.prog 37 #[.pointer (some ⟨w.heap.size, 0, none⟩), .agg #[.int .i64 ts[k].kind, .int .i64 ts[k].xid, .int .i64 ts[k].st.kind, .string ts[k].st.table, .slice ka ts[k].st.key.length kp, .slice ra ts[k].st.row.length rp, .int .i64 ts[k].st.ddl.kind, .string ts[k].st.ddl.table, .slice ca ts[k].st.ddl.cols.length cp, .slice oa ts[k].st.ddl.keys.length op, .string ts[k].st.ddl.name, .string ts[k].st.ddl.to]] u fun e w' => e = .returned (.tuple #[]) ∧ ∃ v', Own w' w.heap.size 72 #[v'] ∧ OpenG w w' (w.heap.size + 1) v' (passes (ts.take (k + 1))) ∧ Below w.heap.size u w') := fun u hu => by
        rw [hs]
        exact (pass_any w w.heap.size _ #[vv] vv _ _ ts[k] u (HO.out.on hu) rfl (HG.out.on hu) HR.out (by omega) HPF.out).mono fun e w' ⟨h1, v', h2, h3, h4⟩ => ⟨h1, v', h2, h3, h4.1⟩
      clear f0 f1 f2 f3 f4 f5 f6 f7 f8 f9 f10 f11 hxr hs hpl
      go_wp2_with fail
      refine (HP.out _ (by repeat (first | with_reducible exact Below.refl _ _ | with_reducible assumption | with_reducible refine ch_alloc ?_ _ | with_reducible refine Below.drew ?_ | with_reducible refine below_draws _ ?_ | (with_reducible refine Below.setCell ?_ ?_ _; rotate_left; focus (first | with_reducible exact Nat.le_refl _ | (simp; done) | (simp; omega) | (simp at *; omega))) | with_reducible refine ch_trans ?_ (by with_reducible assumption)))).mono ?_
      rintro e w1 ⟨rfl, v', ho', hg', hb'⟩
      have HI' : Hid (∃ vv, Own w1 w.heap.size 72 #[vv] ∧ OpenG w w1 (w.heap.size + 1) vv (passes (ts.take (k + 1)))) := ⟨v', ho', hg'⟩
      have hb1 : Below w.heap.size w w1 := (ch_alloc hb _).trans hb'
      clear ho' hg' hb'
      go_wp2
      go_round
      case rel => exact ⟨k + 1, by omega, by go_num, hb1, HI'⟩
      case measure => simp [intOf]; omega
    · have hlti : (ts.length : Int) ≤ k := by omega
      obtain rfl : k = ts.length := by omega
      have c0 := HO.out.loc.one
      have hpx := passes_xids ts ts.length (Nat.le_refl _)
      have hpl := passes_len ts ts.length (Nat.le_refl _)
      obtain ⟨L, hL, hgot, hst, _⟩ := HG.out
      have HXI : Hid (Calls Try.prog 38 #[vv] wr fun e w' => ∃ kv, e = .returned kv ∧ Below wr.heap.size wr w' ∧ Got w' wr.heap.size 3 1 kv ((openL ts).map intX)) := by
        have h := xids_any vv L wr hgot.tr (by rw [hL] at hpl; simp at hpl; omega) (fun p hp => by
          obtain ⟨zs, gz, _⟩ := hst p hp
          obtain ⟨sa, sn, sq, hse, _⟩ := gz.lit2
          exact ⟨sa, sn, sq, hse⟩)
        have e : (L.map fun p => p.1.xid) = openL ts := by
          rw [List.take_length] at hpx hL
          rw [← hpx, hL, List.map_map]; rfl
        rw [e] at h
        exact h
      obtain ⟨a2, n2, q2, rfl, _⟩ := hgot.lit2
      clear hpx hpl hL hgot hst
      go_wp2_with fail
      refine HXI.out.mono ?_
      rintro e w1 ⟨kv, rfl, b1, hg⟩
      have HK : Hid (Got w1 w.heap.size 3 1 kv ((openL ts).map intX)) := hg.mono (by omega)
      have hb1 : Below w.heap.size w w1 := ch_trans hb b1
      go_wp2
      go_ret
      exact ⟨_, rfl, hb1, HK.out⟩
end Go.Proofs.Ytmcjchaokpcomaa
