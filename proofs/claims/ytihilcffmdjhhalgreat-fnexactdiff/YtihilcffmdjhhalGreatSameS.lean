/- Whether two tables are the same: the given SameTable. -/
import Derived.Test.YtihilcffmdjhhalGreatSame
namespace Go.Proofs.YtihilcffmdjhhalGreat
open Go.ChangeShapes Go.WideShapes Go.ChangeAt Go.RowKit

set_option maxRecDepth 100000 in
set_option maxHeartbeats 8000000 in
/-- spec.SameTable -/
theorem same_spec (x y : Array Value) (s t : Tc) (w : World) (hx : TabV w x s) (hy : TabV w y t) (hfs : s.fit) (hft : t.fit) :
    Calls Tryz.prog 56 #[.agg x, .agg y] w fun e w' => ∃ q : Bool, e = .returned (.bool q) ∧ (q = true ↔ sameT s t) ∧ Below w.heap.size w w' := by
  obtain ⟨a, p, o, r, rfl, hx, hc, hk⟩ := hx.lit
  obtain ⟨a', p', o', r', rfl, hy, hc', hk'⟩ := hy.lit
  have hcap : s.cols.length ≤ 9223372036854775807 ∧ s.keys.length ≤ 9223372036854775807 ∧ t.cols.length ≤ 9223372036854775807 ∧ t.keys.length ≤ 9223372036854775807 := by
    obtain ⟨_, _, e, h1, h2, _⟩ := hc
    obtain ⟨_, _, e', h1', h2', _⟩ := hk
    obtain ⟨_, _, e3, h3, h4, _⟩ := hc'
    obtain ⟨_, _, e4, h3', h4', _⟩ := hk'
    unfold maxLen at h2 h2' h4 h4'
    omega
  obtain ⟨hl1, hl2, hl3, hl4⟩ := hcap
  obtain ⟨qs, hqs⟩ := bool_of s.right
  obtain ⟨qt, hqt⟩ := bool_of t.right
  have HR : Hid (sameT s t ↔ (qs = true ∧ qt = true ∧ s.name = t.name ∧ s.cols = t.cols ∧ s.keys = t.keys)) := by
    show _ ↔ _
    rw [hqs, hqt]; exact Iff.rfl
  have HX : Hid (TabV w #[.string s.name, .slice a s.cols.length p, .slice o s.keys.length r] s ∧ TabV w #[.string t.name, .slice a' t.cols.length p', .slice o' t.keys.length r'] t) := ⟨hx, hy⟩
  have HA : Hid (∀ u : World, TabV u #[.string s.name, .slice a s.cols.length p, .slice o s.keys.length r] s → Calls Tryz.prog 98 #[.agg #[.string s.name, .slice a s.cols.length p, .slice o s.keys.length r]] u fun e w' => e = .returned (.bool qs) ∧ Below u.heap.size u w') := fun u hu => (tableOk_spec _ s u hu hfs).mono fun e w' ⟨q, h1, h2, h3⟩ => ⟨by rw [h1, Bool.eq_iff_iff.2 (h2.trans hqs.symm)], h3⟩
  have HB : Hid (∀ u : World, TabV u #[.string t.name, .slice a' t.cols.length p', .slice o' t.keys.length r'] t → Calls Tryz.prog 98 #[.agg #[.string t.name, .slice a' t.cols.length p', .slice o' t.keys.length r']] u fun e w' => e = .returned (.bool qt) ∧ Below u.heap.size u w') := fun u hu => (tableOk_spec _ t u hu hft).mono fun e w' ⟨q, h1, h2, h3⟩ => ⟨by rw [h1, Bool.eq_iff_iff.2 (h2.trans hqt.symm)], h3⟩
  have HC : Hid (RowAt w a 7 (s.cols.map Cl.cells) ∧ RowAt w a' 7 (t.cols.map Cl.cells)) := by
    obtain ⟨_, _, e, _, _, h⟩ := hc
    obtain ⟨_, _, e', _, _, h'⟩ := hc'
    cases e; cases e'
    exact ⟨h, h'⟩
  have HK : Hid (RowAt w o 1 (s.keys.map strX) ∧ RowAt w o' 1 (t.keys.map strX)) := by
    obtain ⟨_, _, e, _, _, h⟩ := hk
    obtain ⟨_, _, e', _, _, h'⟩ := hk'
    cases e; cases e'
    exact ⟨h, h'⟩
  have HL := Loc.new w #[.string s.name, .slice a s.cols.length p, .slice o s.keys.length r] 68
  have HM := Loc.new (w.alloc (.cells #[.string s.name, .slice a s.cols.length p, .slice o s.keys.length r] 68)) #[.string t.name, .slice a' t.cols.length p', .slice o' t.keys.length r'] 68
  rw [show (w.alloc (.cells #[.string s.name, .slice a s.cols.length p, .slice o s.keys.length r] 68)).heap.size = w.heap.size + 1 from by simp] at HM
  clear hx hy hc hc' hk hk' hfs hft hqs hqt
  generalize sameT s t = R at HR ⊢
  go_enter Tryz.func56, Tryz.ntmps56
  go_wp2_with fail
  refine (HA.out _ (HX.out.1.on (w' := ((w.alloc (.cells #[.string s.name, .slice a s.cols.length p, .slice o s.keys.length r] 68)).alloc (.cells #[.string t.name, .slice a' t.cols.length p', .slice o' t.keys.length r'] 68))) (by repeat (first | with_reducible exact Below.refl _ _ | with_reducible assumption | with_reducible refine ch_alloc ?_ _ | with_reducible refine Below.drew ?_ | with_reducible refine below_draws _ ?_ | (with_reducible refine Below.setCell ?_ ?_ _; rotate_left; focus (first | with_reducible exact Nat.le_refl _ | (simp; done) | (simp; omega) | (simp at *; omega))) | with_reducible refine ch_trans ?_ (by with_reducible assumption))))).mono ?_
  rintro e w1 ⟨rfl, b1⟩
  have HL1 := HL.on (w' := w1) (by repeat (first | with_reducible exact Below.refl _ _ | with_reducible assumption | with_reducible refine ch_alloc ?_ _ | with_reducible refine Below.drew ?_ | with_reducible refine below_draws _ ?_ | (with_reducible refine Below.setCell ?_ ?_ _; rotate_left; focus (first | with_reducible exact Nat.le_refl _ | (simp; done) | (simp; omega) | (simp at *; omega))) | with_reducible refine ch_trans ?_ (by with_reducible assumption)))
  have HM1 := HM.on (w' := w1) (by repeat (first | with_reducible exact Below.refl _ _ | with_reducible assumption | with_reducible refine ch_alloc ?_ _ | with_reducible refine Below.drew ?_ | with_reducible refine below_draws _ ?_ | (with_reducible refine Below.setCell ?_ ?_ _; rotate_left; focus (first | with_reducible exact Nat.le_refl _ | (simp; done) | (simp; omega) | (simp at *; omega))) | with_reducible refine ch_trans ?_ (by with_reducible assumption)))
  (try clear c0 c1 c2 d0 d1 d2)
  obtain ⟨c0, c1, c2⟩ := HL1.three
  obtain ⟨d0, d1, d2⟩ := HM1.three
  cases qs
  · have HN : Hid (¬ R) := fun h => by have := HR.out.1 h; simp at this
    go_wp2
    go_ret
    exact ⟨_, rfl, ⟨fun h => by simp at h, fun h => absurd h HN.out⟩, (by repeat (first | with_reducible exact Below.refl _ _ | with_reducible assumption | with_reducible refine ch_alloc ?_ _ | with_reducible refine Below.drew ?_ | with_reducible refine below_draws _ ?_ | (with_reducible refine Below.setCell ?_ ?_ _; rotate_left; focus (first | with_reducible exact Nat.le_refl _ | (simp; done) | (simp; omega) | (simp at *; omega))) | with_reducible refine ch_trans ?_ (by with_reducible assumption)))⟩
  go_wp2_with fail
  refine (HB.out _ (HX.out.2.on (w' := w1) (by repeat (first | with_reducible exact Below.refl _ _ | with_reducible assumption | with_reducible refine ch_alloc ?_ _ | with_reducible refine Below.drew ?_ | with_reducible refine below_draws _ ?_ | (with_reducible refine Below.setCell ?_ ?_ _; rotate_left; focus (first | with_reducible exact Nat.le_refl _ | (simp; done) | (simp; omega) | (simp at *; omega))) | with_reducible refine ch_trans ?_ (by with_reducible assumption))))).mono ?_
  rintro e w2 ⟨rfl, b2⟩
  have HL2 := HL1.on (w' := w2) (by repeat (first | with_reducible exact Below.refl _ _ | with_reducible assumption | with_reducible refine ch_alloc ?_ _ | with_reducible refine Below.drew ?_ | with_reducible refine below_draws _ ?_ | (with_reducible refine Below.setCell ?_ ?_ _; rotate_left; focus (first | with_reducible exact Nat.le_refl _ | (simp; done) | (simp; omega) | (simp at *; omega))) | with_reducible refine ch_trans ?_ (by with_reducible assumption)))
  have HM2 := HM1.on (w' := w2) (by repeat (first | with_reducible exact Below.refl _ _ | with_reducible assumption | with_reducible refine ch_alloc ?_ _ | with_reducible refine Below.drew ?_ | with_reducible refine below_draws _ ?_ | (with_reducible refine Below.setCell ?_ ?_ _; rotate_left; focus (first | with_reducible exact Nat.le_refl _ | (simp; done) | (simp; omega) | (simp at *; omega))) | with_reducible refine ch_trans ?_ (by with_reducible assumption)))
  (try clear c0 c1 c2 d0 d1 d2)
  obtain ⟨c0, c1, c2⟩ := HL2.three
  obtain ⟨d0, d1, d2⟩ := HM2.three
  cases qt
  · have HN : Hid (¬ R) := fun h => by have := HR.out.1 h; simp at this
    go_wp2
    go_ret
    exact ⟨_, rfl, ⟨fun h => by simp at h, fun h => absurd h HN.out⟩, (by repeat (first | with_reducible exact Below.refl _ _ | with_reducible assumption | with_reducible refine ch_alloc ?_ _ | with_reducible refine Below.drew ?_ | with_reducible refine below_draws _ ?_ | (with_reducible refine Below.setCell ?_ ?_ _; rotate_left; focus (first | with_reducible exact Nat.le_refl _ | (simp; done) | (simp; omega) | (simp at *; omega))) | with_reducible refine ch_trans ?_ (by with_reducible assumption)))⟩
  by_cases hn : s.name = t.name
  case neg =>
    have nq := str_no hn
    have HN : Hid (¬ R) := fun h => hn (HR.out.1 h).2.2.1
    clear hn
    go_wp2
    go_ret
    exact ⟨_, rfl, ⟨fun h => by simp at h, fun h => absurd h HN.out⟩, (by repeat (first | with_reducible exact Below.refl _ _ | with_reducible assumption | with_reducible refine ch_alloc ?_ _ | with_reducible refine Below.drew ?_ | with_reducible refine below_draws _ ?_ | (with_reducible refine Below.setCell ?_ ?_ _; rotate_left; focus (first | with_reducible exact Nat.le_refl _ | (simp; done) | (simp; omega) | (simp at *; omega))) | with_reducible refine ch_trans ?_ (by with_reducible assumption)))⟩
  have nq := str_yes hn
  have HE : Hid (s.name = t.name) := hn
  clear hn
  by_cases hlc : s.cols.length = t.cols.length
  case neg =>
    have HN : Hid (¬ R) := fun h => hlc (by rw [(HR.out.1 h).2.2.2.1])
    have e1 : ((s.cols.length : Int) != (t.cols.length : Int)) = true := by simp; omega
    clear hlc
    go_wp2
    go_ret
    exact ⟨_, rfl, ⟨fun h => by simp at h, fun h => absurd h HN.out⟩, (by repeat (first | with_reducible exact Below.refl _ _ | with_reducible assumption | with_reducible refine ch_alloc ?_ _ | with_reducible refine Below.drew ?_ | with_reducible refine below_draws _ ?_ | (with_reducible refine Below.setCell ?_ ?_ _; rotate_left; focus (first | with_reducible exact Nat.le_refl _ | (simp; done) | (simp; omega) | (simp at *; omega))) | with_reducible refine ch_trans ?_ (by with_reducible assumption)))⟩
  by_cases hlk : s.keys.length = t.keys.length
  case neg =>
    have HN : Hid (¬ R) := fun h => hlk (by rw [(HR.out.1 h).2.2.2.2])
    have e1 : ((s.cols.length : Int) != (t.cols.length : Int)) = false := by simp; omega
    have e2 : ((s.keys.length : Int) != (t.keys.length : Int)) = true := by simp; omega
    clear hlk
    go_wp2
    go_ret
    exact ⟨_, rfl, ⟨fun h => by simp at h, fun h => absurd h HN.out⟩, (by repeat (first | with_reducible exact Below.refl _ _ | with_reducible assumption | with_reducible refine ch_alloc ?_ _ | with_reducible refine Below.drew ?_ | with_reducible refine below_draws _ ?_ | (with_reducible refine Below.setCell ?_ ?_ _; rotate_left; focus (first | with_reducible exact Nat.le_refl _ | (simp; done) | (simp; omega) | (simp at *; omega))) | with_reducible refine ch_trans ?_ (by with_reducible assumption)))⟩
  have e1 : ((s.cols.length : Int) != (t.cols.length : Int)) = false := by simp; omega
  have e2 : ((s.keys.length : Int) != (t.keys.length : Int)) = false := by simp; omega
  have HLC : Hid (s.cols.length = t.cols.length) := hlc
  have HLK : Hid (s.keys.length = t.keys.length) := hlk
  clear hlc hlk
  go_wp2
  go_loopw [43] (fun i wr => ∃ k : Nat, k ≤ s.cols.length ∧ i = .int .i64 k ∧ Below w2.heap.size w2 wr ∧ Hid (∀ i (h : i < s.cols.length) (g : i < t.cols.length), i < k → s.cols[i] = t.cols[i])) (fun i _ => s.cols.length - (intOf i).toNat)
  case atStart => exact ⟨0, Nat.zero_le _, rfl, Below.refl _ _, fun i h g hi => by omega⟩
  case round =>
    obtain ⟨k, hk, rfl, hb, HEC⟩ := hrel
    have hbw : Below w.heap.size w w2 := (by repeat (first | with_reducible exact Below.refl _ _ | with_reducible assumption | with_reducible refine ch_alloc ?_ _ | with_reducible refine Below.drew ?_ | with_reducible refine below_draws _ ?_ | (with_reducible refine Below.setCell ?_ ?_ _; rotate_left; focus (first | with_reducible exact Nat.le_refl _ | (simp; done) | (simp; omega) | (simp at *; omega))) | with_reducible refine ch_trans ?_ (by with_reducible assumption)))
    have hbr : Below w.heap.size w wr := ch_trans hbw hb
    have HL3 := HL2.on hb
    have HM3 := HM2.on hb
    clear c0 c1 c2 d0 d1 d2
    obtain ⟨c0, c1, c2⟩ := HL3.three
    obtain ⟨d0, d1, d2⟩ := HM3.three
    by_cases hlt : k < s.cols.length
    · have hlti : (k : Int) < s.cols.length := by omega
      have hlt' : k < t.cols.length := by have := HLC.out; omega
      have hlti' : (k : Int) < t.cols.length := by omega
      obtain ⟨b, off, rfl, f0, f1, f2, f3, f4, f5, f6⟩ := (HC.out.1.on hbr).cols k hlt
      obtain ⟨b', off', rfl, g0, g1, g2, g3, g4, g5, g6⟩ := (HC.out.2.on hbr).cols k hlt'
      cases e3 : (s.cols[k].name.toList == t.cols[k].name.toList)
      · have HN : Hid (¬ R) := fun h => by
          have h := (HR.out.1 h).2.2.2.1
          simp only [h] at e3
          simp at e3
        go_wp2
        go_region
        all_goals
          go_wp2
          go_ret
          exact ⟨_, rfl, ⟨fun h => by simp at h, fun h => absurd h HN.out⟩, (by repeat (first | with_reducible exact Below.refl _ _ | with_reducible assumption | with_reducible refine ch_alloc ?_ _ | with_reducible refine Below.drew ?_ | with_reducible refine below_draws _ ?_ | (with_reducible refine Below.setCell ?_ ?_ _; rotate_left; focus (first | with_reducible exact Nat.le_refl _ | (simp; done) | (simp; omega) | (simp at *; omega))) | with_reducible refine ch_trans ?_ (by with_reducible assumption)))⟩
      · skip
        cases e4 : (s.cols[k].ty == t.cols[k].ty)
        · have HN : Hid (¬ R) := fun h => by
            have h := (HR.out.1 h).2.2.2.1
            simp only [h] at e4
            simp at e4
          go_wp2
          go_region
          all_goals
            go_wp2
            go_ret
            exact ⟨_, rfl, ⟨fun h => by simp at h, fun h => absurd h HN.out⟩, (by repeat (first | with_reducible exact Below.refl _ _ | with_reducible assumption | with_reducible refine ch_alloc ?_ _ | with_reducible refine Below.drew ?_ | with_reducible refine below_draws _ ?_ | (with_reducible refine Below.setCell ?_ ?_ _; rotate_left; focus (first | with_reducible exact Nat.le_refl _ | (simp; done) | (simp; omega) | (simp at *; omega))) | with_reducible refine ch_trans ?_ (by with_reducible assumption)))⟩
        · skip
          cases e5 : (s.cols[k].nt == t.cols[k].nt)
          · have HN : Hid (¬ R) := fun h => by
              have h := (HR.out.1 h).2.2.2.1
              simp only [h] at e5
              simp at e5
            go_wp2
            go_region
            all_goals
              go_wp2
              go_ret
              exact ⟨_, rfl, ⟨fun h => by simp at h, fun h => absurd h HN.out⟩, (by repeat (first | with_reducible exact Below.refl _ _ | with_reducible assumption | with_reducible refine ch_alloc ?_ _ | with_reducible refine Below.drew ?_ | with_reducible refine below_draws _ ?_ | (with_reducible refine Below.setCell ?_ ?_ _; rotate_left; focus (first | with_reducible exact Nat.le_refl _ | (simp; done) | (simp; omega) | (simp at *; omega))) | with_reducible refine ch_trans ?_ (by with_reducible assumption)))⟩
          · skip
            cases e6 : (s.cols[k].has == t.cols[k].has)
            · have HN : Hid (¬ R) := fun h => by
                have h := (HR.out.1 h).2.2.2.1
                simp only [h] at e6
                simp at e6
              go_wp2
              go_region
              all_goals
                go_wp2
                go_ret
                exact ⟨_, rfl, ⟨fun h => by simp at h, fun h => absurd h HN.out⟩, (by repeat (first | with_reducible exact Below.refl _ _ | with_reducible assumption | with_reducible refine ch_alloc ?_ _ | with_reducible refine Below.drew ?_ | with_reducible refine below_draws _ ?_ | (with_reducible refine Below.setCell ?_ ?_ _; rotate_left; focus (first | with_reducible exact Nat.le_refl _ | (simp; done) | (simp; omega) | (simp at *; omega))) | with_reducible refine ch_trans ?_ (by with_reducible assumption)))⟩
            · skip
              cases e7 : (s.cols[k].dt == t.cols[k].dt)
              · have HN : Hid (¬ R) := fun h => by
                  have h := (HR.out.1 h).2.2.2.1
                  simp only [h] at e7
                  simp at e7
                go_wp2
                go_region
                all_goals
                  go_wp2
                  go_ret
                  exact ⟨_, rfl, ⟨fun h => by simp at h, fun h => absurd h HN.out⟩, (by repeat (first | with_reducible exact Below.refl _ _ | with_reducible assumption | with_reducible refine ch_alloc ?_ _ | with_reducible refine Below.drew ?_ | with_reducible refine below_draws _ ?_ | (with_reducible refine Below.setCell ?_ ?_ _; rotate_left; focus (first | with_reducible exact Nat.le_refl _ | (simp; done) | (simp; omega) | (simp at *; omega))) | with_reducible refine ch_trans ?_ (by with_reducible assumption)))⟩
              · skip
                cases e8 : (s.cols[k].dn == t.cols[k].dn)
                · have HN : Hid (¬ R) := fun h => by
                    have h := (HR.out.1 h).2.2.2.1
                    simp only [h] at e8
                    simp at e8
                  go_wp2
                  go_region
                  all_goals
                    go_wp2
                    go_ret
                    exact ⟨_, rfl, ⟨fun h => by simp at h, fun h => absurd h HN.out⟩, (by repeat (first | with_reducible exact Below.refl _ _ | with_reducible assumption | with_reducible refine ch_alloc ?_ _ | with_reducible refine Below.drew ?_ | with_reducible refine below_draws _ ?_ | (with_reducible refine Below.setCell ?_ ?_ _; rotate_left; focus (first | with_reducible exact Nat.le_refl _ | (simp; done) | (simp; omega) | (simp at *; omega))) | with_reducible refine ch_trans ?_ (by with_reducible assumption)))⟩
                · skip
                  cases e9 : (s.cols[k].ds.toList == t.cols[k].ds.toList)
                  · have HN : Hid (¬ R) := fun h => by
                      have h := (HR.out.1 h).2.2.2.1
                      simp only [h] at e9
                      simp at e9
                    go_wp2
                    go_region
                    all_goals
                      go_wp2
                      go_ret
                      exact ⟨_, rfl, ⟨fun h => by simp at h, fun h => absurd h HN.out⟩, (by repeat (first | with_reducible exact Below.refl _ _ | with_reducible assumption | with_reducible refine ch_alloc ?_ _ | with_reducible refine Below.drew ?_ | with_reducible refine below_draws _ ?_ | (with_reducible refine Below.setCell ?_ ?_ _; rotate_left; focus (first | with_reducible exact Nat.le_refl _ | (simp; done) | (simp; omega) | (simp at *; omega))) | with_reducible refine ch_trans ?_ (by with_reducible assumption)))⟩
                  · skip
                    have HE' : Hid (∀ i (h : i < s.cols.length) (g : i < t.cols.length), i < k + 1 → s.cols[i] = t.cols[i]) := fun i h g hi => by
                      by_cases e : i = k
                      · subst e; exact cl_same e3 e4 e5 e6 e7 e8 e9
                      · exact HEC.out i h g (by omega)
                    go_wp2
                    go_region
                    all_goals
                      go_wp2
                      go_round
                      case rel => exact ⟨k + 1, by omega, by go_num, (by repeat (first | with_reducible exact Below.refl _ _ | with_reducible assumption | with_reducible refine ch_alloc ?_ _ | with_reducible refine Below.drew ?_ | with_reducible refine below_draws _ ?_ | (with_reducible refine Below.setCell ?_ ?_ _; rotate_left; focus (first | with_reducible exact Nat.le_refl _ | (simp; done) | (simp; omega) | (simp at *; omega))) | with_reducible refine ch_trans ?_ (by with_reducible assumption))), HE'⟩
                      case measure => simp [intOf]; omega
    · have hlti : (s.cols.length : Int) ≤ k := by omega
      have HEQ : Hid (s.cols = t.cols) := List.ext_getElem HLC.out fun i h g => HEC.out i h g (by omega)
      clear HEC
      go_wp2
      clear c0 c1 c2 d0 d1 d2
      go_loopw [61] (fun i wq => ∃ j : Nat, j ≤ s.keys.length ∧ i = .int .i64 j ∧ Below wr.heap.size wr wq ∧ Hid (∀ i (h : i < s.keys.length) (g : i < t.keys.length), i < j → s.keys[i] = t.keys[i])) (fun i _ => s.keys.length - (intOf i).toNat)
      case atStart => exact ⟨0, Nat.zero_le _, rfl, Below.refl _ _, fun i h g hi => by omega⟩
      case round =>
        obtain ⟨j, hj, rfl, hbq, HEK⟩ := hrel
        have hbz : Below w.heap.size w wr := ch_trans hbr hbq
        have HL4 := HL3.on hbq
        have HM4 := HM3.on hbq
        obtain ⟨c0, c1, c2⟩ := HL4.three
        obtain ⟨d0, d1, d2⟩ := HM4.three
        by_cases hjt : j < s.keys.length
        · have hjti : (j : Int) < s.keys.length := by omega
          have hjt' : j < t.keys.length := by have := HLK.out; omega
          have hjti' : (j : Int) < t.keys.length := by omega
          obtain ⟨b, off, rfl, f0⟩ := (HK.out.1.on hbz).strs j hjt
          obtain ⟨b', off', rfl, g0⟩ := (HK.out.2.on hbz).strs j hjt'
          by_cases he : s.keys[j] = t.keys[j]
          · have e0 := str_yes he
            have HE' : Hid (∀ i (h : i < s.keys.length) (g : i < t.keys.length), i < j + 1 → s.keys[i] = t.keys[i]) := fun i h g hi => by
              by_cases e : i = j
              · subst e; exact he
              · exact HEK.out i h g (by omega)
            clear he
            go_wp2
            go_region
            all_goals
              go_wp2
              go_round
              case rel => exact ⟨j + 1, by omega, by go_num, (by repeat (first | with_reducible exact Below.refl _ _ | with_reducible assumption | with_reducible refine ch_alloc ?_ _ | with_reducible refine Below.drew ?_ | with_reducible refine below_draws _ ?_ | (with_reducible refine Below.setCell ?_ ?_ _; rotate_left; focus (first | with_reducible exact Nat.le_refl _ | (simp; done) | (simp; omega) | (simp at *; omega))) | with_reducible refine ch_trans ?_ (by with_reducible assumption))), HE'⟩
              case measure => simp [intOf]; omega
          · have e0 := str_no he
            have HN : Hid (¬ R) := fun h => by
              have h := (HR.out.1 h).2.2.2.2
              apply he
              simp only [h]
            clear he
            go_wp2
            go_region
            all_goals
              go_wp2
              go_ret
              exact ⟨_, rfl, ⟨fun h => by simp at h, fun h => absurd h HN.out⟩, (by repeat (first | with_reducible exact Below.refl _ _ | with_reducible assumption | with_reducible refine ch_alloc ?_ _ | with_reducible refine Below.drew ?_ | with_reducible refine below_draws _ ?_ | (with_reducible refine Below.setCell ?_ ?_ _; rotate_left; focus (first | with_reducible exact Nat.le_refl _ | (simp; done) | (simp; omega) | (simp at *; omega))) | with_reducible refine ch_trans ?_ (by with_reducible assumption)))⟩
        · have hjti : (s.keys.length : Int) ≤ j := by omega
          have HY : Hid R := HR.out.2 ⟨by trivial, by trivial, HE.out, HEQ.out, List.ext_getElem HLK.out fun i h g => HEK.out i h g (by omega)⟩
          go_wp2
          go_ret
          exact ⟨_, rfl, ⟨fun _ => HY.out, fun _ => rfl⟩, (by repeat (first | with_reducible exact Below.refl _ _ | with_reducible assumption | with_reducible refine ch_alloc ?_ _ | with_reducible refine Below.drew ?_ | with_reducible refine below_draws _ ?_ | (with_reducible refine Below.setCell ?_ ?_ _; rotate_left; focus (first | with_reducible exact Nat.le_refl _ | (simp; done) | (simp; omega) | (simp at *; omega))) | with_reducible refine ch_trans ?_ (by with_reducible assumption)))⟩
end Go.Proofs.YtihilcffmdjhhalGreat
