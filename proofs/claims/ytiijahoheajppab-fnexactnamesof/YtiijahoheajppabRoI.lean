/- Whether rows are right: the landed rowsFit and RowsOk. -/
import Derived.Test.YtiijahoheajppabBo
import Derived.Test.YtiijahoheajppabRowOkI
import Derived.Test.YtiijahoheajppabGr
namespace Go.Proofs.Ytiijahoheajppab
open Go.ChangeShapes Go.WideShapes Go.ChangeAt Go.RowKit

/-- What the landed RowsOk asks. -/
def rowsOkP (t : Tc) (rs : List (List Vc)) (good : Prop) : Prop := rs = [] ∨ (t.right ∧ good)
/-- Rows that fit, few, their keys rising. -/
def rowsGood (t : Tc) (rs : List (List Vc)) : Prop := rs.length ≤ 60 ∧ (∀ i (h : i < rs.length), rowFits t.cols rs[i]) ∧ ∀ i (h : i + 1 < rs.length), keyLess (keyVals t rs[i]) (keyVals t rs[i + 1])

set_option maxRecDepth 100000 in
set_option maxHeartbeats 4000000 in
/-- impl.rowsFit -/
theorem rowsFit_impl (x : Array Value) (t : Tc) (lv : Value) (rs : List (List Vc)) (w : World) (hx : TabV w x t) (hl : RowsV w lv rs) (hf : t.fit) (hr : t.right) :
    Calls Try.prog 50 #[.agg x, lv] w fun e w' => ∃ q : Bool, e = .returned (.bool q) ∧ (q = true ↔ rowsGood t rs) ∧ Below w.heap.size w w' := by
  obtain ⟨a, p, o, r, rfl, hx, _, _⟩ := hx.lit
  obtain ⟨a1, p1, rfl, hl1, hm1, hl⟩ := hl.lit
  unfold maxLen at hm1
  have HX : Hid (TabV w #[.string t.name, .slice a t.cols.length p, .slice o t.keys.length r] t) := hx
  have HA : Hid (RowsV w (.slice a1 rs.length p1) rs) := hl
  have HF : Hid t.fit := hf
  have HRT : Hid t.right := hr
  have HL := Loc.new w #[.string t.name, .slice a t.cols.length p, .slice o t.keys.length r] 47
  clear hx hl hf hr
  by_cases h60 : 60 < rs.length
  · have h60' : decide ((60 : Int) < rs.length) = true := by simp; omega
    have HB : Hid (¬ rowsGood t rs) := fun h => by have := h.1; omega
    go_enter Try.func50, Try.ntmps50
    go_wp2
    go_ret
    exact ⟨_, rfl, ⟨fun h => by simp at h, fun h => absurd h HB.out⟩, (by repeat (first | with_reducible exact Below.refl _ _ | with_reducible assumption | with_reducible refine ch_alloc ?_ _ | with_reducible refine Below.drew ?_ | with_reducible refine below_draws _ ?_ | (with_reducible refine Below.setCell ?_ ?_ _; rotate_left; focus (first | with_reducible exact Nat.le_refl _ | (simp; done) | (simp; omega) | (simp at *; omega))) | with_reducible refine ch_trans ?_ (by with_reducible assumption)))⟩
  have h60' : decide ((60 : Int) < rs.length) = false := by simp; omega
  obtain ⟨c0, c1, c2⟩ := HL.three
  go_enter Try.func50, Try.ntmps50
  go_wp2_with fail
  have hb1 : Below w.heap.size w (w.alloc (.cells #[.string t.name, .slice a t.cols.length p, .slice o t.keys.length r] 47)) := (by repeat (first | with_reducible exact Below.refl _ _ | with_reducible assumption | with_reducible refine ch_alloc ?_ _ | with_reducible refine Below.drew ?_ | with_reducible refine below_draws _ ?_ | (with_reducible refine Below.setCell ?_ ?_ _; rotate_left; focus (first | with_reducible exact Nat.le_refl _ | (simp; done) | (simp; omega) | (simp at *; omega))) | with_reducible refine ch_trans ?_ (by with_reducible assumption)))
  refine (keyPlacesOf_any _ t _ (HX.out.on (w' := w.alloc (.cells #[.string t.name, .slice a t.cols.length p, .slice o t.keys.length r] 47)) hb1) HF.out HRT.out).mono ?_
  rintro e w2 ⟨pv, rfl, b2, hi⟩
  obtain ⟨ai, ci, rfl, _, _, hi⟩ := hi.lit
  have HI : Hid (IntsV w2 (.slice ai t.places.length ci) t.places) := hi
  have HL2 := HL.on b2
  have hb2 : Below w.heap.size w w2 := ch_trans hb1 b2
  clear hi b2 c0 c1 c2 hb1
  go_wp2
  go_loopw [15] (fun i wr => ∃ k : Nat, k ≤ rs.length ∧ i = .int .i64 k ∧ Below w2.heap.size w2 wr ∧ Hid (∀ i (h : i < rs.length), i < k → rowFits t.cols rs[i] ∧ ∀ j (g : j < rs.length), i = j + 1 → keyLess (keyVals t rs[j]) (keyVals t rs[i]))) (fun i _ => rs.length - (intOf i).toNat)
  case atStart => exact ⟨0, Nat.zero_le _, rfl, Below.refl _ _, fun i h hi => by omega⟩
  case round =>
    obtain ⟨k, hk, rfl, hb, HN⟩ := hrel
    have hbw : Below w.heap.size w wr := ch_trans hb2 hb
    have HL3 := HL2.on hb
    by_cases hlt : k < rs.length
    · have hlti : (k : Int) < rs.length := by omega
      obtain ⟨b, off, c, pc, rfl, d0, hx⟩ := (HA.out.on hbw).rw k hlt
      obtain ⟨qf, hqf⟩ := bool_of (rowFits t.cols rs[k])
      have HLV := HL3.on1 (.cells #[.slice c rs[k].length pc] 52)
      obtain ⟨l0, l1, l2⟩ := HLV.three
      have m0 := (Loc.new wr #[.slice c rs[k].length pc] 52).one
      have hbv : Below wr.heap.size wr (wr.alloc (.cells #[.slice c rs[k].length pc] 52)) := ch_alloc (Below.refl _ _) _
      have HVK : Hid (ValsV wr (.slice c rs[k].length pc) rs[k]) := hx
      have HS : Hid (∀ u : World, Below wr.heap.size wr u → Calls Try.prog 40 #[.agg #[.string t.name, .slice a t.cols.length p, .slice o t.keys.length r], .agg #[.slice c rs[k].length pc]] u fun e w' => e = .returned (.bool qf) ∧ Below u.heap.size u w') := fun u hu => (rowFits_impl _ t _ rs[k] u (HX.out.on (ch_trans hbw hu)) (hx.on hu)).mono fun e w' ⟨q, h1, h2, h3⟩ => ⟨by rw [h1, Bool.eq_iff_iff.2 (h2.trans hqf.symm)], h3⟩
      clear hx
      cases qf
      · have HB : Hid (¬ rowsGood t rs) := fun h => by
          have := hqf.2 (h.2.1 k hlt); cases this
        clear hqf
        go_wp2_with fail
        generalize wr.alloc (.cells #[.slice c rs[k].length pc] 52) = wv at l0 l1 l2 m0 hbv ⊢
        refine region_grown (by kernel_rfl) (by kernel_rfl) ?_
        repeat (go_big_quiet_step (first | (intro hu; go_at_call 40; exact hu.call (HS.out _ (ch_trans hbv hu))) | (intro hu; have n0 := hu.cell l0; have n1 := hu.cell l1; have n2 := hu.cell l2; have n3 := hu.cell m0; go_simp; (try exact rfl))))
        refine wpQuiet_nil ?_
        intro w4 b4
        have b4 : Below wv.heap.size wv w4 := b4
        go_wp2
        go_ret
        exact ⟨_, rfl, ⟨fun h => by simp at h, fun h => absurd h HB.out⟩, ch_trans (ch_trans hbw hbv) b4⟩
      · have HFK : Hid (rowFits t.cols rs[k]) := hqf.1 rfl
        clear hqf
        by_cases hk0 : k = 0
        · subst hk0
          simp only [Nat.add_zero] at d0
          have HN' : Hid (∀ i (h : i < rs.length), i < 0 + 1 → rowFits t.cols rs[i] ∧ ∀ j (g : j < rs.length), i = j + 1 → keyLess (keyVals t rs[j]) (keyVals t rs[i])) := fun i h hi => by
            obtain rfl : i = 0 := by omega
            exact ⟨HFK.out, fun j g e => by omega⟩
          go_wp2_with fail
          generalize wr.alloc (.cells #[.slice c rs[0].length pc] 52) = wv at l0 l1 l2 m0 hbv ⊢
          refine region_grown (by kernel_rfl) (by kernel_rfl) ?_
          repeat (go_big_quiet_step (first | (intro hu; go_at_call 40; exact hu.call (HS.out _ (ch_trans hbv hu))) | (intro hu; have n0 := hu.cell l0; have n1 := hu.cell l1; have n2 := hu.cell l2; have n3 := hu.cell m0; go_simp; (try exact rfl))))
          refine wpQuiet_nil ?_
          intro w4 b4
          have b4 : Below wv.heap.size wv w4 := b4
          go_wp2
          go_round
          case rel => exact ⟨0 + 1, by omega, by go_num, ch_trans (ch_trans hb hbv) b4, HN'⟩
          case measure => simp [intOf]; omega
        · obtain ⟨j, hj⟩ : ∃ j, k = j + 1 := ⟨k - 1, by omega⟩
          have hjl : j < rs.length := by omega
          have hjli : (j : Int) < rs.length := by omega
          obtain ⟨b', off', cj, pj, ej, dj, hxj⟩ := (HA.out.on hbw).rw j hjl
          cases ej
          have e0 : decide ((0 : Int) < (k : Int)) = true := by simp; omega
          have e0n : decide (0 < k) = true := by simp; omega
          have hj0 : (0 : Int) ≤ (j : Int) := by omega
          have hwr : IntKind.i64.wrap ((k : Int) - 1) = (j : Int) := by rw [IntKind.wrap_i64]; omega
          have HFJ : Hid (rowFits t.cols rs[j]) := (HN.out j hjl (by omega)).1
          have HC : Hid (∀ u : World, Below wr.heap.size wr u → Calls Try.prog 83 #[.slice ai t.places.length ci, .agg #[.slice cj rs[j].length pj], .agg #[.slice c rs[k].length pc]] u fun e w' => e = .returned (.int .i64 (cmpL (keyVals t rs[j]) (keyVals t rs[k]))) ∧ Below u.heap.size u w') := fun u hu => compare_any _ t.places _ _ rs[j] rs[k] u (HI.out.on (ch_trans hb hu)) (hxj.on hu) (HVK.out.on hu) (HFJ.out.1 ▸ right_within HRT.out) (HFK.out.1 ▸ right_within HRT.out)
          have HLE : Hid (cmpL (keyVals t rs[j]) (keyVals t rs[k]) < 0 ↔ keyLess (keyVals t rs[j]) (keyVals t rs[k])) := cmpL_less _ _ (by simp [keyVals, valsAt])
          have dj' := cell_on dj hbv
          clear hxj dj
          generalize cmpL (keyVals t rs[j]) (keyVals t rs[k]) = cz at HC HLE
          by_cases hle : 0 ≤ cz
          · have HB : Hid (¬ rowsGood t rs) := fun h => by
              subst hj
              have := HLE.out.2 (h.2.2 j hlt)
              omega
            have hle' : decide (0 ≤ cz) = true := by simpa using hle
            clear hj hle
            go_wp2_with fail
            generalize wr.alloc (.cells #[.slice c rs[k].length pc] 52) = wv at l0 l1 l2 m0 dj' hbv ⊢
            refine region_grown (by kernel_rfl) (by kernel_rfl) ?_
            repeat (go_big_quiet_step (first | (intro hu; go_at_call 40; exact hu.call (HS.out _ (ch_trans hbv hu))) | (intro hu; go_at_call 83; exact hu.call (HC.out _ (ch_trans hbv hu))) | (intro hu; have n0 := hu.cell l0; have n1 := hu.cell l1; have n2 := hu.cell l2; have n3 := hu.cell m0; have n4 := hu.cell dj'; go_simp; (try exact rfl))))
            refine wpQuiet_nil ?_
            intro w4 b4
            have b4 : Below wv.heap.size wv w4 := b4
            go_wp2
            go_ret
            exact ⟨_, rfl, ⟨fun h => by simp at h, fun h => absurd h HB.out⟩, ch_trans (ch_trans hbw hbv) b4⟩
          · have HN' : Hid (∀ i (h : i < rs.length), i < k + 1 → rowFits t.cols rs[i] ∧ ∀ j (g : j < rs.length), i = j + 1 → keyLess (keyVals t rs[j]) (keyVals t rs[i])) := fun i h hi => by
              by_cases e : i = k
              · subst e
                exact ⟨HFK.out, fun j' g e => by
                  obtain rfl : j' = j := by omega
                  exact HLE.out.1 (by omega)⟩
              · exact HN.out i h (by omega)
            have hle' : decide (0 ≤ cz) = false := by simpa using hle
            clear hj hle
            go_wp2_with fail
            generalize wr.alloc (.cells #[.slice c rs[k].length pc] 52) = wv at l0 l1 l2 m0 dj' hbv ⊢
            refine region_grown (by kernel_rfl) (by kernel_rfl) ?_
            repeat (go_big_quiet_step (first | (intro hu; go_at_call 40; exact hu.call (HS.out _ (ch_trans hbv hu))) | (intro hu; go_at_call 83; exact hu.call (HC.out _ (ch_trans hbv hu))) | (intro hu; have n0 := hu.cell l0; have n1 := hu.cell l1; have n2 := hu.cell l2; have n3 := hu.cell m0; have n4 := hu.cell dj'; go_simp; (try exact rfl))))
            refine wpQuiet_nil ?_
            intro w4 b4
            have b4 : Below wv.heap.size wv w4 := b4
            go_wp2
            go_round
            case rel => exact ⟨k + 1, by omega, by go_num, ch_trans (ch_trans hb hbv) b4, HN'⟩
            case measure => simp [intOf]; omega
    · have hlti : (rs.length : Int) ≤ k := by omega
      have HY : Hid (rowsGood t rs) := (⟨by omega, fun i h => (HN.out i h (by omega)).1, fun i h => (HN.out (i + 1) h (by omega)).2 i (by omega) rfl⟩)
      go_wp2
      go_ret
      exact ⟨_, rfl, ⟨fun _ => HY.out, fun _ => rfl⟩, hbw⟩

end Go.Proofs.Ytiijahoheajppab
