/- Whether rows are right: the given RowsOk. -/
import Derived.Test.YtiijahoheajppabRoI
import Derived.Test.YtiijahoheajppabOrd
namespace Go.Proofs.Ytiijahoheajppab
open Go.ChangeShapes Go.WideShapes Go.ChangeAt Go.RowKit

/-- Right rows of a right table. -/
def rowsRight (t : Tc) (rs : List (List Vc)) : Prop := t.right ∧ rowsGood t rs
set_option maxRecDepth 100000 in
set_option maxHeartbeats 4000000 in
/-- spec.RowsOk -/
theorem rowsOk_spec (x : Array Value) (t : Tc) (lv : Value) (rs : List (List Vc)) (w : World) (hx : TabV w x t) (hl : RowsV w lv rs) (hf : t.fit) :
    Calls Try.prog 46 #[.agg x, lv] w fun e w' => ∃ q : Bool, e = .returned (.bool q) ∧ (q = true ↔ rowsRight t rs) ∧ Below w.heap.size w w' := by
  obtain ⟨a, p, o, r, rfl, hx, _, _⟩ := hx.lit
  obtain ⟨a1, p1, rfl, hl1, hm1, hl⟩ := hl.lit
  unfold maxLen at hm1
  obtain ⟨qs, hqs⟩ := bool_of t.right
  have HX : Hid (TabV w #[.string t.name, .slice a t.cols.length p, .slice o t.keys.length r] t) := hx
  have HA : Hid (RowsV w (.slice a1 rs.length p1) rs) := hl
  have HF : Hid t.fit := hf
  have HQS : Hid (qs = true ↔ t.right) := hqs
  have HT : Hid (∀ u : World, Below w.heap.size w u → Calls Try.prog 70 #[.agg #[.string t.name, .slice a t.cols.length p, .slice o t.keys.length r]] u fun e w' => e = .returned (.bool qs) ∧ Below u.heap.size u w') := fun u hu => (tableOk_spec _ t u (hx.on hu) hf).mono fun e w' ⟨q, h1, h2, h3⟩ => ⟨by rw [h1, Bool.eq_iff_iff.2 (h2.trans hqs.symm)], h3⟩
  have HL := Loc.new w #[.string t.name, .slice a t.cols.length p, .slice o t.keys.length r] 47
  have hbv : Below w.heap.size w (w.alloc (.cells #[.string t.name, .slice a t.cols.length p, .slice o t.keys.length r] 47)) := (by repeat (first | with_reducible exact Below.refl _ _ | with_reducible assumption | with_reducible refine ch_alloc ?_ _ | with_reducible refine Below.drew ?_ | with_reducible refine below_draws _ ?_ | (with_reducible refine Below.setCell ?_ ?_ _; rotate_left; focus (first | with_reducible exact Nat.le_refl _ | (simp; done) | (simp; omega) | (simp at *; omega))) | with_reducible refine ch_trans ?_ (by with_reducible assumption)))
  clear hx hl hf hqs
  obtain ⟨l0, l1, l2⟩ := HL.three
  go_enter Try.func46, Try.ntmps46
  go_wp2_with fail
  refine (HT.out _ hbv).mono ?_
  rintro e w2 ⟨rfl, b2⟩
  have HL2 := HL.on b2
  have hb2 : Below w.heap.size w w2 := ch_trans hbv b2
  clear b2 HL l0 l1 l2 hbv HT
  cases qs
  · have HB : Hid (¬ rowsRight t rs) := fun h => by have := HQS.out.2 h.1; cases this
    clear HQS
    go_wp2
    go_ret
    exact ⟨_, rfl, ⟨fun h => by simp at h, fun h => absurd h HB.out⟩, hb2⟩
  have HRT : Hid t.right := HQS.out.1 (by trivial)
  clear HQS
  by_cases h60 : 60 < rs.length
  · have h60' : decide ((60 : Int) < rs.length) = true := by simp; omega
    have HB : Hid (¬ rowsRight t rs) := fun h => by have := h.2.1; omega
    go_wp2
    go_ret
    exact ⟨_, rfl, ⟨fun h => by simp at h, fun h => absurd h HB.out⟩, hb2⟩
  have h60' : decide ((60 : Int) < rs.length) = false := by simp; omega
  go_wp2
  go_loopw [17] (fun i wr => ∃ k : Nat, k ≤ rs.length ∧ i = .int .i64 k ∧ Below w2.heap.size w2 wr ∧ Hid (∀ i (h : i < rs.length), i < k → rowFits t.cols rs[i] ∧ ∀ j (g : j < rs.length), i = j + 1 → keyLess (keyVals t rs[j]) (keyVals t rs[i]))) (fun i _ => rs.length - (intOf i).toNat)
  case atStart => exact ⟨0, Nat.zero_le _, rfl, Below.refl _ _, fun i h hi => by omega⟩
  case round =>
    obtain ⟨k, hk, rfl, hb, HN⟩ := hrel
    have hbw : Below w.heap.size w wr := ch_trans hb2 hb
    have HL3 := HL2.on hb
    by_cases hlt : k < rs.length
    · have hlti : (k : Int) < rs.length := by omega
      obtain ⟨b, off, c, pc, rfl, d0, hx⟩ := (HA.out.on hbw).rw k hlt
      obtain ⟨qf, hqf⟩ := bool_of (rowFits t.cols rs[k])
      have HLV := HL3.on1 (.cells #[.slice c rs[k].length pc] 52)
      obtain ⟨l0, l1, l2⟩ := HLV.three
      have m0 := (Loc.new wr #[.slice c rs[k].length pc] 52).one
      have hbv : Below wr.heap.size wr (wr.alloc (.cells #[.slice c rs[k].length pc] 52)) := ch_alloc (Below.refl _ _) _
      have HVK : Hid (ValsV wr (.slice c rs[k].length pc) rs[k]) := hx
      have HS : Hid (∀ u : World, Below wr.heap.size wr u → Calls Try.prog 74 #[.agg #[.string t.name, .slice a t.cols.length p, .slice o t.keys.length r], .agg #[.slice c rs[k].length pc]] u fun e w' => e = .returned (.bool qf) ∧ Below u.heap.size u w') := fun u hu => (rowOk_spec _ t _ rs[k] u (HX.out.on (ch_trans hbw hu)) (hx.on hu) HF.out).mono fun e w' ⟨q, h1, h2, h3⟩ => ⟨by rw [h1, Bool.eq_iff_iff.2 ((h2.trans ⟨fun h => h.2, fun h => ⟨HRT.out, h⟩⟩).trans hqf.symm)], h3⟩
      clear hx
      cases qf
      · have HB : Hid (¬ rowsRight t rs) := fun h => by
          have := hqf.2 (h.2.2.1 k hlt); cases this
        clear hqf
        go_wp2_with fail
        generalize wr.alloc (.cells #[.slice c rs[k].length pc] 52) = wv at l0 l1 l2 m0 hbv ⊢
        refine region_grown (by kernel_rfl) (by kernel_rfl) ?_
        repeat (go_big_quiet_step (first | (intro hu; go_at_call 74; exact hu.call (HS.out _ (ch_trans hbv hu))) | (intro hu; have n0 := hu.cell l0; have n1 := hu.cell l1; have n2 := hu.cell l2; have n3 := hu.cell m0; go_simp; (try exact rfl))))
        refine wpQuiet_nil ?_
        intro w4 b4
        have b4 : Below wv.heap.size wv w4 := b4
        go_wp2
        go_ret
        exact ⟨_, rfl, ⟨fun h => by simp at h, fun h => absurd h HB.out⟩, ch_trans (ch_trans hbw hbv) b4⟩
      · have HFK : Hid (rowFits t.cols rs[k]) := hqf.1 rfl
        clear hqf
        by_cases hk0 : k = 0
        · subst hk0
          simp only [Nat.add_zero] at d0
          have HN' : Hid (∀ i (h : i < rs.length), i < 0 + 1 → rowFits t.cols rs[i] ∧ ∀ j (g : j < rs.length), i = j + 1 → keyLess (keyVals t rs[j]) (keyVals t rs[i])) := fun i h hi => by
            obtain rfl : i = 0 := by omega
            exact ⟨HFK.out, fun j g e => by omega⟩
          go_wp2_with fail
          generalize wr.alloc (.cells #[.slice c rs[0].length pc] 52) = wv at l0 l1 l2 m0 hbv ⊢
          refine region_grown (by kernel_rfl) (by kernel_rfl) ?_
          repeat (go_big_quiet_step (first | (intro hu; go_at_call 74; exact hu.call (HS.out _ (ch_trans hbv hu))) | (intro hu; have n0 := hu.cell l0; have n1 := hu.cell l1; have n2 := hu.cell l2; have n3 := hu.cell m0; go_simp; (try exact rfl))))
          refine wpQuiet_nil ?_
          intro w4 b4
          have b4 : Below wv.heap.size wv w4 := b4
          go_wp2
          go_round
          case rel => exact ⟨0 + 1, by omega, by go_num, ch_trans (ch_trans hb hbv) b4, HN'⟩
          case measure => simp [intOf]; omega
        · obtain ⟨j, hj⟩ : ∃ j, k = j + 1 := ⟨k - 1, by omega⟩
          have hjl : j < rs.length := by omega
          have hjli : (j : Int) < rs.length := by omega
          obtain ⟨b', off', cj, pj, ej, dj, hxj⟩ := (HA.out.on hbw).rw j hjl
          cases ej
          have e0 : decide ((0 : Int) < (k : Int)) = true := by simp; omega
          have e0n : decide (0 < k) = true := by simp; omega
          have hj0 : (0 : Int) ≤ (j : Int) := by omega
          have hwr : IntKind.i64.wrap ((k : Int) - 1) = (j : Int) := by rw [IntKind.wrap_i64]; omega
          have HFJ : Hid (rowFits t.cols rs[j]) := (HN.out j hjl (by omega)).1
          have HKJ : Hid (∀ u : World, Below wr.heap.size wr u → Calls Try.prog 79 #[.agg #[.string t.name, .slice a t.cols.length p, .slice o t.keys.length r], .agg #[.slice cj rs[j].length pj]] u fun e w' => ∃ kv, e = .returned kv ∧ Below u.heap.size u w' ∧ ValsV w' kv (keyVals t rs[j])) := fun u hu => (l03Key_any _ t _ rs[j] u (HX.out.on (ch_trans hbw hu)) (hxj.on hu) HRT.out HFJ.out.1).mono fun e w' ⟨kv, h1, h2, h3⟩ => ⟨kv, h1, h2, h3.vals⟩
          have HKK : Hid (∀ u : World, Below wr.heap.size wr u → Calls Try.prog 79 #[.agg #[.string t.name, .slice a t.cols.length p, .slice o t.keys.length r], .agg #[.slice c rs[k].length pc]] u fun e w' => ∃ kv, e = .returned kv ∧ Below u.heap.size u w' ∧ ValsV w' kv (keyVals t rs[k])) := fun u hu => (l03Key_any _ t _ rs[k] u (HX.out.on (ch_trans hbw hu)) (HVK.out.on hu) HRT.out HFK.out.1).mono fun e w' ⟨kv, h1, h2, h3⟩ => ⟨kv, h1, h2, h3.vals⟩
          have dj' := cell_on dj hbv
          have HJ : Hid (k = j + 1) := hj
          clear hxj dj hj hk0
          go_wp2_with fail
          generalize wr.alloc (.cells #[.slice c rs[k].length pc] 52) = wv at l0 l1 l2 m0 dj' hbv ⊢
          refine region_plan [([0, 1], 2), ([3, 4, 5, 6, 7, 8, 9, 10, 11, 12, 13, 15, 16], 14), ([], 17), ([], 18)] [19, 20, 21] (by kernel_rfl) (by kernel_rfl) ?_
          have hgd := Grows.drawn wv
          generalize { wv with drawn := wv.drawn + 1 } = wd at hgd ⊢
          have hwd : Below wr.heap.size wr wd := ch_trans hbv hgd
          have a0 := hgd.cell l0
          have a1' := hgd.cell l1
          have a2 := hgd.cell l2
          have a3 := hgd.cell m0
          have a4 := hgd.cell dj'
          clear l0 l1 l2 m0 dj' hgd
          refine plan_on (by simp only [pick, List.getElem?_toArray, List.getElem?_cons_succ, List.getElem?_cons_zero]; rfl) ?_
          repeat (go_big_quiet_step ((intro hu; have n0 := hu.cell a0; have n1 := hu.cell a1'; have n2 := hu.cell a2; have n3 := hu.cell a3; have n4 := hu.cell a4; go_simp; (try exact rfl))))
          refine wpQuiet_nil ?_
          refine plan_call rfl rfl (fun K hK => ?_)
          go_simp
          go_at_call 74
          refine (HS.out _ hwd).mono ?_
          rintro e w3 ⟨rfl, b3⟩
          refine ⟨_, rfl, hK _ _ ⟨b3, ?_⟩⟩
          have hw3 : Below wr.heap.size wr w3 := ch_trans hwd b3
          have b0 := cell_on a0 b3
          have b1' := cell_on a1' b3
          have b2' := cell_on a2 b3
          have b3' := cell_on a3 b3
          have b4' := cell_on a4 b3
          clear a0 a1' a2 a3 a4 b3 hK K
          refine plan_on (by simp only [pick, List.getElem?_toArray, List.getElem?_cons_succ, List.getElem?_cons_zero]; rfl) ?_
          repeat (go_big_quiet_step ((intro hu; have n0 := hu.cell b0; have n1 := hu.cell b1'; have n2 := hu.cell b2'; have n3 := hu.cell b3'; have n4 := hu.cell b4'; go_simp; (try exact rfl))))
          refine wpQuiet_nil ?_
          refine plan_call rfl rfl (fun K hK => ?_)
          go_simp
          go_at_call 79
          refine (HKJ.out _ hw3).mono ?_
          rintro e w4 ⟨kj, rfl, b4, vj⟩
          refine ⟨_, rfl, hK _ _ ⟨b4, ?_⟩⟩
          have hw4 : Below wr.heap.size wr w4 := ch_trans hw3 b4
          have VJ : Hid (ValsV w4 kj (keyVals t rs[j])) := vj
          clear b0 b1' b2' b3' b4' b4 hK K vj
          refine plan_on rfl ?_
          refine wpQuiet_nil ?_
          refine plan_call rfl rfl (fun K hK => ?_)
          go_simp
          go_at_call 79
          refine (HKK.out _ hw4).mono ?_
          rintro e w5 ⟨kk, rfl, b5, vk⟩
          refine ⟨_, rfl, hK _ _ ⟨b5, ?_⟩⟩
          have hw5 : Below wr.heap.size wr w5 := ch_trans hw4 b5
          have VK : Hid (ValsV w5 kk (keyVals t rs[k])) := vk
          have VJ5 : Hid (ValsV w5 kj (keyVals t rs[j])) := VJ.out.on b5
          clear b5 hK K vk VJ
          refine plan_on rfl ?_
          refine wpQuiet_nil ?_
          refine plan_call rfl rfl (fun K hK => ?_)
          go_simp
          go_at_call 78
          refine (keyLess_spec _ _ _ _ _ VJ5.out VK.out).mono ?_
          rintro e w6 ⟨ql, rfl, hql, b6⟩
          refine ⟨_, rfl, hK _ _ ⟨b6, ?_⟩⟩
          have hw6 : Below wr.heap.size wr w6 := ch_trans hw5 b6
          have HQL : Hid (ql = true ↔ keyLess (keyVals t rs[j]) (keyVals t rs[k])) := hql
          clear b6 hK K hql
          cases ql
          · have HB : Hid (¬ rowsRight t rs) := fun h => by
              have h1 := HJ.out
              subst h1
              have := HQL.out.2 (h.2.2.2 j hlt)
              cases this
            clear HQL
            refine plan_end (by simp only [pick, List.getElem?_toArray, List.getElem?_cons_succ, List.getElem?_cons_zero]; rfl) ?_
            repeat (go_big_quiet_step ((intro hu; go_simp; (try exact rfl))))
            refine wpQuiet_nil ?_
            go_wp2
            go_ret
            exact ⟨_, rfl, ⟨fun h => by simp at h, fun h => absurd h HB.out⟩, ch_trans hbw hw6⟩
          · have HN' : Hid (∀ i (h : i < rs.length), i < k + 1 → rowFits t.cols rs[i] ∧ ∀ j (g : j < rs.length), i = j + 1 → keyLess (keyVals t rs[j]) (keyVals t rs[i])) := fun i h hi => by
              by_cases e : i = k
              · subst e
                exact ⟨HFK.out, fun j' g e => by
                  obtain rfl : j' = j := by have := HJ.out; omega
                  exact HQL.out.1 rfl⟩
              · exact HN.out i h (by omega)
            clear HQL
            refine plan_end (by simp only [pick, List.getElem?_toArray, List.getElem?_cons_succ, List.getElem?_cons_zero]; rfl) ?_
            repeat (go_big_quiet_step ((intro hu; go_simp; (try exact rfl))))
            refine wpQuiet_nil ?_
            go_wp2
            go_round
            case rel => exact ⟨k + 1, by omega, by go_num, ch_trans hb hw6, HN'⟩
            case measure => simp [intOf]; omega
    · have hlti : (rs.length : Int) ≤ k := by omega
      have HY : Hid (rowsRight t rs) := ⟨HRT.out, by omega, fun i h => (HN.out i h (by omega)).1, fun i h => (HN.out (i + 1) h (by omega)).2 i (by omega) rfl⟩
      go_wp2
      go_ret
      exact ⟨_, rfl, ⟨fun _ => HY.out, fun _ => rfl⟩, hbw⟩
end Go.Proofs.Ytiijahoheajppab
