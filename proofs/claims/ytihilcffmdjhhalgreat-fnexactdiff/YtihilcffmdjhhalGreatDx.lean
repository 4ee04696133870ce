/- impl.tableNames impl.Diff -/
import Derived.Test.YtihilcffmdjhhalGreatDw
namespace Go.Proofs.YtihilcffmdjhhalGreat
open Go.ChangeShapes Go.WideShapes Go.ChangeAt Go.RowKit

set_option maxRecDepth 100000 in
set_option maxHeartbeats 4000000 in
/-- impl.tableNames -/
theorem tableNames_any (av bv : Value) (ts us : List Tc) (w : World) (ha : TabsV w av ts) (hb : TabsV w bv us) (h1 : ts.length ≤ 6) (h2 : us.length ≤ 6) :
    Calls Tryz.prog 27 #[.agg #[av], .agg #[bv]] w fun e w' => ∃ kv ns, e = .returned kv ∧ Below w.heap.size w w' ∧ StrsV w' kv ns ∧ rising ns ∧ (∀ x, x ∈ ns ↔ ∃ t ∈ ts ++ us, t.name = x) ∧ ns.length ≤ 12 := by
  obtain ⟨a, p, rfl, hl, hm⟩ := ha.lit
  obtain ⟨b, q, rfl, hl2, hm2⟩ := hb.lit
  unfold maxLen at hm hm2
  have HT : Hid (TabsV w (.slice a ts.length p) ts ∧ TabsV w (.slice b us.length q) us) := ⟨ha, hb⟩
  have HW := Loc.new ((w.alloc (.cells #[.slice a ts.length p] 33)).alloc (.cells #[.slice b us.length q] 33)) #[.slice a ts.length p, .slice b us.length q] 31
  rw [show ((w.alloc (.cells #[.slice a ts.length p] 33)).alloc (.cells #[.slice b us.length q] 33)).heap.size = w.heap.size + 1 + 1 from by simp] at HW
  have HWH : Hid (Loc (((w.alloc (.cells #[.slice a ts.length p] 33)).alloc (.cells #[.slice b us.length q] 33)).alloc (.cells #[.slice a ts.length p, .slice b us.length q] 31)) (w.heap.size + 1 + 1) #[.slice a ts.length p, .slice b us.length q]) := HW
  have hbv : Below w.heap.size w (((w.alloc (.cells #[.slice a ts.length p] 33)).alloc (.cells #[.slice b us.length q] 33)).alloc (.cells #[.slice a ts.length p, .slice b us.length q] 31)) := (by repeat (first | with_reducible exact Below.refl _ _ | with_reducible assumption | with_reducible refine ch_alloc ?_ _ | with_reducible refine Below.drew ?_ | with_reducible refine below_draws _ ?_ | (with_reducible refine Below.setCell ?_ ?_ _; rotate_left; focus (first | with_reducible exact Nat.le_refl _ | (simp; done) | (simp; omega) | (simp at *; omega))) | with_reducible refine ch_trans ?_ (by with_reducible assumption)))
  clear ha hb HW
  go_enter Tryz.func27, Tryz.ntmps27
  go_wp2_with fail
  refine (concatTabs _ _ ts us _ (HT.out.1.on hbv) (HT.out.2.on hbv) h1 h2 _ _ HWH.out).mono ?_
  rintro e w1 ⟨kv, rfl, b1, htv⟩
  have hb1 := ch_trans hbv b1
  have hul : (ts ++ us).length ≤ 12 := by simp; omega
  clear b1 hbv HWH HT
  generalize hrs : ts ++ us = rs at htv hul
  have HRS : Hid (ts ++ us = rs) := hrs
  clear hrs
  obtain ⟨va, vp, rfl, hvl, hvm⟩ := htv.lit
  unfold maxLen at hvm
  have HTV : Hid (TabsV w1 (.slice va rs.length vp) rs) := htv
  clear htv
  go_wp2
  go_loopw [5, 15] (fun o i wr => ∃ k : Nat, k ≤ rs.length ∧ i = .int .i64 k ∧ Below w1.heap.size w1 wr ∧ Hid (Got wr w1.heap.size 9 1 o (((rs.take k).map Tc.name).map strX))) (fun _ i _ => rs.length - (intOf i).toNat)
  case atStart => exact ⟨0, Nat.zero_le _, rfl, Below.refl _ _, Got.nil _ _ _ _⟩
  case round =>
    obtain ⟨k, hk, rfl, hb, HG⟩ := hrel
    have hbw := ch_trans hb1 hb
    by_cases hlt : k < rs.length
    · have hlti : (k : Int) < rs.length := by omega
      obtain ⟨oa, on, oc, rfl, hg⟩ := HG.out.lit2
      have HG' : Hid (Got wr w1.heap.size 9 1 (.slice oa on oc) (((rs.take k).map Tc.name).map strX)) := hg
      obtain ⟨bt, offt, c1, p1, c2, p2, rfl, t0, t1, t2, hxt⟩ := (HTV.out.on hb).tab k hlt
      clear hxt HG hg
      have e1 : (((rs.take (k + 1)).map Tc.name).map strX) = (((rs.take k).map Tc.name).map strX) ++ [strX rs[k].name] := by
        have : rs.take (k + 1) = rs.take k ++ [rs[k]] := by simp
        rw [this, List.map_append, List.map_append]; rfl
      have HE : Hid ((((rs.take (k + 1)).map Tc.name).map strX) = (((rs.take k).map Tc.name).map strX) ++ [strX rs[k].name]) := e1
      have HLn : Hid (Loc ((wr.alloc (.cells #[.string rs[k].name, .slice c1 rs[k].cols.length p1, .slice c2 rs[k].keys.length p2] 68)).alloc (.cells #[.string rs[k].name] 9)) (wr.heap.size + 1) (strX rs[k].name)) := by
        have := Loc.new (wr.alloc (.cells #[.string rs[k].name, .slice c1 rs[k].cols.length p1, .slice c2 rs[k].keys.length p2] 68)) #[.string rs[k].name] 9
        rwa [show (wr.alloc (.cells #[.string rs[k].name, .slice c1 rs[k].cols.length p1, .slice c2 rs[k].keys.length p2] 68)).heap.size = wr.heap.size + 1 from by simp] at this
      have hB2 : w1.heap.size ≤ ((wr.alloc (.cells #[.string rs[k].name, .slice c1 rs[k].cols.length p1, .slice c2 rs[k].keys.length p2] 68)).alloc (.cells #[.string rs[k].name] 9)).heap.size := by have := hb.size; simp; omega
      have hbA : Below wr.heap.size wr ((wr.alloc (.cells #[.string rs[k].name, .slice c1 rs[k].cols.length p1, .slice c2 rs[k].keys.length p2] 68)).alloc (.cells #[.string rs[k].name] 9)) := (by repeat (first | with_reducible exact Below.refl _ _ | with_reducible assumption | with_reducible refine ch_alloc ?_ _ | with_reducible refine Below.drew ?_ | with_reducible refine below_draws _ ?_ | (with_reducible refine Below.setCell ?_ ?_ _; rotate_left; focus (first | with_reducible exact Nat.le_refl _ | (simp; done) | (simp; omega) | (simp at *; omega))) | with_reducible refine ch_trans ?_ (by with_reducible assumption)))
      clear e1
      go_wp2_with (at_builtin; refine app_one rfl (.tmp 19) (.tmp 22) rfl Tryz.underlying29 infoStrD rfl (by decide) (by decide) w1.heap.size _ (((rs.take k).map Tc.name).map strX) rfl (HG'.out.on hbA) (wr.heap.size + 1) 1 (strX rs[k].name) rfl HLn.out rfl (fun u hu => by simp at hu; subst hu; rfl) (by simp; omega) hB2 ?_; intro v' w2 hg2 hb2)
      have HG2 : Hid (Got w2 w1.heap.size 9 1 v' (((rs.take (k + 1)).map Tc.name).map strX)) := by
        show Got _ _ _ _ _ _
        rw [HE.out]; exact hg2
      have hb3 : Below w1.heap.size w1 w2 := (ch_trans hb hbA).trans hb2
      clear hg2 hb2
      go_round
      case rel => exact ⟨k + 1, hlt, by go_num, hb3, HG2⟩
      case measure => simp [intOf]; omega
    · have hlti : (rs.length : Int) ≤ k := by omega
      obtain rfl : k = rs.length := by omega
      have hg := HG.out
      rw [List.take_length] at hg
      have HM : Hid (∀ x, x ∈ rs.map Tc.name ↔ ∃ t ∈ ts ++ us, t.name = x) := fun x => by rw [HRS.out]; exact List.mem_map
      have HNR := names_rise (rs.map Tc.name)
      have hll : (rs.map Tc.name).length = rs.length := by simp
      generalize rs.map Tc.name = l at hg HM HNR hll
      have hl12 : l.length ≤ 12 := by omega
      have HNR' : Hid (rising ((Lib.compact ((l.map letters).mergeSort fun x y => decide (x ≤ y))).map word) ∧ (∀ x, x ∈ (Lib.compact ((l.map letters).mergeSort fun x y => decide (x ≤ y))).map word ↔ x ∈ l) ∧ (Lib.compact ((l.map letters).mergeSort fun x y => decide (x ≤ y))).length ≤ l.length) := HNR
      clear HNR HG hll
      rcases hg.holds with ⟨rfl, rfl⟩ | ⟨g, cap, rfl, hBg, hgl, hlc, hcm, hH⟩
      · clear hg
        go_wp2_with fail
        refine (sortNone _ _ _).mono ?_
        rintro e w2 ⟨rfl, rfl⟩
        go_wp2_with fail
        refine (compNone _ _ _).mono ?_
        rintro e w3 ⟨rfl, rfl⟩
        go_wp2
        go_ret
        exact ⟨_, [], rfl, hbw, ⟨.none, 0, rfl, Nat.le_refl _, Nat.zero_le _, RowAt.nil _ _ _⟩, rising_nil, fun x => by rw [← HM.out x], by simp⟩
      · have HH : Hid (Sort.Holds encStr wr g 0 (l.map letters).toArray) := hH
        have hp : Hid (((l.map letters).mergeSort fun x y => decide (x ≤ y)).length = l.length) := by
          show _ = _
          rw [(List.mergeSort_perm _ _).length_eq]; simp
        clear hg hH
        unfold maxLen at hcm
        go_wp2_with fail
        refine (sortNames g cap l.length (l.map letters) (by simp) _ HH.out hgl (by omega)).mono ?_
        rintro e w2 ⟨rfl, b2, hH2, hg2⟩
        have HH2 : Hid (Sort.Holds encStr w2 g 0 ((l.map letters).mergeSort fun x y => decide (x ≤ y)).toArray) := hH2
        have hb2 : Below w.heap.size w w2 := hbw.trans (b2.mono (by have := hb1.size; omega))
        clear b2 hH2 hbw
        go_wp2_with fail
        refine (compNames g cap l.length _ hp.out _ HH2.out hg2 (by omega) hlc).mono ?_
        rintro e w3 ⟨rfl, b3, hr3⟩
        have hb3 : Below w.heap.size w w3 := hb2.trans (b3.mono (by have := hb1.size; omega))
        have HR3 : Hid (StrsV w3 (.slice (some ⟨g, 0, none⟩) (Lib.compact ((l.map letters).mergeSort fun x y => decide (x ≤ y))).length cap) ((Lib.compact ((l.map letters).mergeSort fun x y => decide (x ≤ y))).map word)) := ⟨_, cap, by simp, by have := HNR'.out.2.2; simp; omega, by unfold maxLen; omega, hr3⟩
        clear b3 hr3 hb2
        go_wp2
        go_ret
        exact ⟨_, _, rfl, hb3, HR3.out, HNR'.out.1, fun x => (HNR'.out.2.1 x).trans (HM.out x), by have := HNR'.out.2.2; simp; omega⟩
end Go.Proofs.YtihilcffmdjhhalGreat

namespace Go.Proofs.YtihilcffmdjhhalGreat
open Go.ChangeShapes Go.WideShapes Go.ChangeAt Go.RowKit

/-- How far the landed loop is: of k rising names those that differ. -/
theorem keep_rise {ns : List ByteArray} (h : rising ns) {k : Nat} (hk : k < ns.length) {ol : List ByteArray} (hr : rising ol) (hm : ∀ x ∈ ol, x ∈ ns.take k) : rising (ol ++ [ns[k]]) :=
  rising_snoc hr fun x hx => by
    obtain ⟨i, hi, rfl⟩ := List.getElem_of_mem (hm x hx)
    have hi' : i < k := by simp at hi; omega
    rw [List.getElem_take]
    exact List.pairwise_iff_getElem.1 h i k (by omega) hk hi'
structure Kep (ns : List ByteArray) (S : ByteArray → Prop) (k : Nat) (ol : List ByteArray) : Prop where
  rise : rising ol
  mem : ∀ x, x ∈ ol ↔ x ∈ ns.take k ∧ ¬ S x
  len : ol.length ≤ k
theorem Kep.start (ns : List ByteArray) (S : ByteArray → Prop) : Kep ns S 0 [] := ⟨rising_nil, by simp, by simp⟩
theorem Kep.skip {ns : List ByteArray} {S : ByteArray → Prop} {k : Nat} {ol : List ByteArray} (h : Kep ns S k ol) (hk : k < ns.length) (hs : S ns[k]) : Kep ns S (k + 1) ol := by
  refine ⟨h.rise, fun x => ?_, by have := h.len; omega⟩
  rw [h.mem, take_one hk, List.mem_append]
  constructor
  · exact fun ⟨h1, h2⟩ => ⟨Or.inl h1, h2⟩
  · rintro ⟨h1 | h1, h2⟩
    · exact ⟨h1, h2⟩
    · simp at h1; subst h1; exact absurd hs h2
theorem Kep.add {ns : List ByteArray} {S : ByteArray → Prop} {k : Nat} {ol : List ByteArray} (h : Kep ns S k ol) (hn : rising ns) (hk : k < ns.length) (hs : ¬ S ns[k]) : Kep ns S (k + 1) (ol ++ [ns[k]]) := by
  refine ⟨keep_rise hn hk h.rise fun x hx => ((h.mem x).1 hx).1, fun x => ?_, by have := h.len; simp; omega⟩
  rw [List.mem_append, h.mem, take_one hk, List.mem_append]
  constructor
  · rintro (⟨h1, h2⟩ | h1)
    · exact ⟨Or.inl h1, h2⟩
    · refine ⟨Or.inr h1, ?_⟩
      simp at h1; subst h1; exact hs
  · rintro ⟨h1 | h1, h2⟩
    · exact Or.inl ⟨h1, h2⟩
    · exact Or.inr h1

set_option maxRecDepth 100000 in
set_option maxHeartbeats 4000000 in
/-- impl.Diff -/
theorem diff_impl (cv dv cv' dv' : Value) (ts ts' : List Tc) (ds ds' : List (List (List Vc))) (w : World) (hc : TabsV w cv ts) (hd : DataV w dv ds) (hc' : TabsV w cv' ts') (hd' : DataV w dv' ds') (hf : fits ts) (hf' : fits ts') :
    Calls Tryz.prog 8 #[.agg #[cv, dv], .agg #[cv', dv']] w fun e w' => ∃ kv ns, e = .returned kv ∧ isDiff ts ds ts' ds' ns ∧ ns.length ≤ 12 ∧ Below w.heap.size w w' ∧ Got w' w.heap.size 9 1 kv (ns.map strX) := by
  obtain ⟨a, p, rfl, hl, hm⟩ := hc.lit
  obtain ⟨b, q, rfl, hl2, hm2, _⟩ := hd.lit
  obtain ⟨a', p', rfl, hl', hm'⟩ := hc'.lit
  obtain ⟨b', q', rfl, hl2', hm2', _⟩ := hd'.lit
  unfold maxLen at hm hm2 hm' hm2'
  have HC : Hid (TabsV w (.slice a ts.length p) ts) := hc
  have HD : Hid (DataV w (.slice b ds.length q) ds) := hd
  have HC' : Hid (TabsV w (.slice a' ts'.length p') ts') := hc'
  have HD' : Hid (DataV w (.slice b' ds'.length q') ds') := hd'
  have HF : Hid (fits ts ∧ fits ts') := ⟨hf, hf'⟩
  have HL := Loc.new w #[.slice a ts.length p, .slice b ds.length q] 36
  have HL2 := Loc.new (w.alloc (.cells #[.slice a ts.length p, .slice b ds.length q] 36)) #[.slice a' ts'.length p', .slice b' ds'.length q'] 36
  rw [show (w.alloc (.cells #[.slice a ts.length p, .slice b ds.length q] 36)).heap.size = w.heap.size + 1 from by simp] at HL2
  have HLb := HL.on (ch_alloc (Below.refl _ _) (.cells #[.slice a' ts'.length p', .slice b' ds'.length q'] 36))
  have hbv : Below w.heap.size w ((w.alloc (.cells #[.slice a ts.length p, .slice b ds.length q] 36)).alloc (.cells #[.slice a' ts'.length p', .slice b' ds'.length q'] 36)) := (by repeat (first | with_reducible exact Below.refl _ _ | with_reducible assumption | with_reducible refine ch_alloc ?_ _ | with_reducible refine Below.drew ?_ | with_reducible refine below_draws _ ?_ | (with_reducible refine Below.setCell ?_ ?_ _; rotate_left; focus (first | with_reducible exact Nat.le_refl _ | (simp; done) | (simp; omega) | (simp at *; omega))) | with_reducible refine ch_trans ?_ (by with_reducible assumption)))
  clear hc hd hc' hd' hf hf' HL
  obtain ⟨l0, l1⟩ := HLb.two
  obtain ⟨m0, m1⟩ := HL2.two
  go_enter Tryz.func8, Tryz.ntmps8
  go_wp2_with fail
  refine (dbOk_impl _ _ ts ds _ (HC.out.on hbv) (HD.out.on hbv) HF.out.1).mono ?_
  rintro e w1 ⟨qa, rfl, hqa, b1⟩
  have HQA : Hid (qa = true ↔ dbRight ts ds) := hqa
  have hb1 := ch_trans hbv b1
  have HLd := HLb.on b1
  have HLe := HL2.on b1
  clear b1 hbv HLb HL2 l0 l1 m0 m1 hqa
  obtain ⟨l0, l1⟩ := HLd.two
  obtain ⟨m0, m1⟩ := HLe.two
  cases qa
  · have HN : Hid (isDiff ts ds ts' ds' []) := Or.inl ⟨fun h => (by have := HQA.out.2 h.1; cases this), rfl⟩
    go_wp2
    go_ret
    exact ⟨_, [], rfl, HN.out, by simp, hb1, Got.nil _ _ _ _⟩
  go_wp2_with fail
  refine (dbOk_impl _ _ ts' ds' _ (HC'.out.on hb1) (HD'.out.on hb1) HF.out.2).mono ?_
  rintro e w4 ⟨qb, rfl, hqb, b4⟩
  have HQB : Hid (qb = true ↔ dbRight ts' ds') := hqb
  have hb4 := ch_trans hb1 b4
  have HLf := HLd.on b4
  have HLg := HLe.on b4
  clear b4 hb1 HLd HLe l0 l1 m0 m1 hqb
  obtain ⟨l0, l1⟩ := HLf.two
  obtain ⟨m0, m1⟩ := HLg.two
  cases qb
  · have HN : Hid (isDiff ts ds ts' ds' []) := Or.inl ⟨fun h => (by have := HQB.out.2 h.2; cases this), rfl⟩
    go_wp2
    go_ret
    exact ⟨_, [], rfl, HN.out, by simp, hb4, Got.nil _ _ _ _⟩
  have HR : Hid (dbRight ts ds ∧ dbRight ts' ds') := ⟨HQA.out.1 (by trivial), HQB.out.1 (by trivial)⟩
  have hn1 : ts.length ≤ 6 := HR.out.1.1.1
  have hn2 : ts'.length ≤ 6 := HR.out.2.1.1
  clear HQA HQB
  go_wp2_with fail
  refine (tableNames_any _ _ ts ts' _ (HC.out.on hb4) (HC'.out.on hb4) hn1 hn2).mono ?_
  rintro e w5 ⟨kv, ns, rfl, b5, hns, hrise, hmem, hnl⟩
  obtain ⟨na, np, rfl, hnl2, hnm, hnr⟩ := hns
  unfold maxLen at hnm
  have HNR : Hid (RowAt w5 na 1 (ns.map strX)) := hnr
  have HRI : Hid (rising ns) := hrise
  have HI : Hid (∀ k ol, Kep ns (isSame ts ds ts' ds') k ol → ns.length ≤ k → isDiff ts ds ts' ds' ol) := fun k ol h hk => Or.inr ⟨HR.out.1, HR.out.2, h.rise, fun x => by rw [h.mem, List.take_of_length_le hk, hmem]⟩
  have hb5 := ch_trans hb4 b5
  have HL5 := HLf.on b5
  have HM5 := HLg.on b5
  clear b5 hrise hmem hnr HLf HLg l0 l1 m0 m1 hb4
  go_wp2
  go_loopw [5, 22] (fun o i wr => ∃ (k : Nat) (ol : List ByteArray), k ≤ ns.length ∧ i = .int .i64 k ∧ Below w5.heap.size w5 wr ∧ Hid (Kep ns (isSame ts ds ts' ds') k ol) ∧ Hid (Got wr w5.heap.size 9 1 o (ol.map strX))) (fun _ i _ => ns.length - (intOf i).toNat)
  case atStart => exact ⟨0, [], Nat.zero_le _, rfl, Below.refl _ _, Kep.start _ _, Got.nil _ _ _ _⟩
  case round =>
    obtain ⟨k, ol, hk, rfl, hb, HN, HG⟩ := hrel
    obtain ⟨oa, on, oc, rfl, hg⟩ := HG.out.lit2
    have HG' : Hid (Got wr w5.heap.size 9 1 (.slice oa on oc) (ol.map strX)) := hg
    have hbw : Below w.heap.size w wr := ch_trans hb5 hb
    clear HG hg
    by_cases hlt : k < ns.length
    · have hlti : (k : Int) < ns.length := by omega
      obtain ⟨bt, offt, rfl, c0⟩ := (HNR.out.on hb).strs k hlt
      obtain ⟨l0, l1⟩ := (HL5.on hb).two
      obtain ⟨m0, m1⟩ := (HM5.on hb).two
      go_wp2_with fail
      refine (sameIn_any _ _ _ _ ts ts' ds ds' ns[k] _ (HC.out.on hbw) (HD.out.on hbw) (HC'.out.on hbw) (HD'.out.on hbw) HF.out.1 HF.out.2 HR.out.1 HR.out.2).mono ?_
      rintro e w6 ⟨qs, rfl, hqs, b6⟩
      have hb7 := ch_trans hb b6
      have HG7 : Hid (Got w6 w5.heap.size 9 1 (.slice oa on oc) (ol.map strX)) := HG'.out.on b6
      clear b6 l0 l1 m0 m1 c0
      cases qs
      · have HN8 : Hid (Kep ns (isSame ts ds ts' ds') (k + 1) (ol ++ [ns[k]])) := HN.out.add HRI.out hlt fun h => by have := hqs.2 h; cases this
        have hB2 : w5.heap.size ≤ (w6.alloc (.cells #[.string ns[k]] 9)).heap.size := by have := hb7.size; simp; omega
        have hol : ol.length ≤ 12 := by have := HN.out.len; omega
        clear hqs
        go_wp2_with (at_builtin; refine app_one rfl (.tmp 31) (.tmp 33) rfl Tryz.underlying29 infoStrD rfl (by decide) (by decide) w5.heap.size _ (ol.map strX) rfl (HG7.out.on (ch_alloc (Below.refl _ _) _)) w6.heap.size 1 (strX ns[k]) rfl (Loc.new _ _ _) rfl (fun u hu => by simp at hu; subst hu; rfl) (by simp; omega) hB2 ?_; intro v' w8 hg8 b8)
        have HG8 : Hid (Got w8 w5.heap.size 9 1 v' ((ol ++ [ns[k]]).map strX)) := by
          show Got _ _ _ _ _ _
          rw [List.map_append]; exact hg8
        have hb8 : Below w5.heap.size w5 w8 := Below.trans (ch_alloc hb7 _) b8
        clear b8 hg8
        go_round
        case rel => exact ⟨k + 1, _, hlt, by go_num, hb8, HN8, HG8⟩
        case measure => simp [intOf]; omega
      · have HN8 : Hid (Kep ns (isSame ts ds ts' ds') (k + 1) ol) := HN.out.skip hlt (hqs.1 rfl)
        clear hqs
        go_wp2
        go_round
        case rel => exact ⟨k + 1, ol, hlt, by go_num, hb7, HN8, HG7⟩
        case measure => simp [intOf]; omega
    · have hlti : (ns.length : Int) ≤ k := by omega
      have HJ : Hid (isDiff ts ds ts' ds' ol) := HI.out k ol HN.out (by omega)
      have hol : ol.length ≤ 12 := by have := HN.out.len; omega
      go_wp2
      go_ret
      exact ⟨_, ol, rfl, HJ.out, hol, hbw, HG'.out.mono hb5.size⟩
end Go.Proofs.YtihilcffmdjhhalGreat
