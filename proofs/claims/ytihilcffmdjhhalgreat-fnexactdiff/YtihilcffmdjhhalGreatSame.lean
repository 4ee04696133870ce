/- Whether lists are the same: slices.Equal. -/
import Derived.Test.YtihilcffmdjhhalGreatTbOkI
import Derived.Test.YtihilcffmdjhhalGreatBo
import Derived.Test.YtihilcffmdjhhalGreatGr
namespace Go.Proofs.YtihilcffmdjhhalGreat
open Go.ChangeShapes Go.WideShapes Go.ChangeAt Go.RowKit

theorem cl_same {c d : Cl} (e0 : (c.name.toList == d.name.toList) = true) (e1 : (c.ty == d.ty) = true) (e2 : (c.nt == d.nt) = true) (e3 : (c.has == d.has) = true) (e4 : (c.dt == d.dt) = true) (e5 : (c.dn == d.dn) = true) (e6 : (c.ds.toList == d.ds.toList) = true) : c = d := by
  rw [str_eq] at e0 e6
  cases c; cases d
  simp at e0 e1 e2 e3 e4 e5 e6
  simp [e0, e1, e2, e3, e4, e5, e6]

set_option maxRecDepth 100000 in
set_option maxHeartbeats 4000000 in
/-- slices.Equal over columns -/
theorem equalCols (av bv : Value) (cs ds : List Cl) (w : World) (ha : ColsV w av cs) (hb : ColsV w bv ds) : Calls Tryz.prog 112 #[av, bv] w fun e w' => ∃ q : Bool, e = .returned (.bool q) ∧ (q = true ↔ cs = ds) ∧ Below w.heap.size w w' := by
  obtain ⟨a, cap, rfl, hl, hm, hc⟩ := ha
  obtain ⟨a', cap', rfl, hl', hm', hc'⟩ := hb
  unfold maxLen at hm hm'
  have HC : Hid (RowAt w a 7 (cs.map Cl.cells)) := hc
  have HC' : Hid (RowAt w a' 7 (ds.map Cl.cells)) := hc'
  clear hc hc'
  by_cases hn : cs.length = ds.length
  · have hni : ((cs.length : Int) == (ds.length : Int)) = true := by simp; omega
    go_enter Tryz.func112, Tryz.ntmps112
    go_wp2
    go_loopw [13] (fun i wr => ∃ k : Nat, k ≤ cs.length ∧ i = .int .i64 k ∧ Below w.heap.size w wr ∧ Hid (∀ i (h : i < cs.length) (g : i < ds.length), i < k → cs[i] = ds[i])) (fun i _ => cs.length - (intOf i).toNat)
    case atStart => exact ⟨0, Nat.zero_le _, rfl, (by repeat (first | with_reducible exact Below.refl _ _ | with_reducible assumption | with_reducible refine ch_alloc ?_ _ | with_reducible refine Below.drew ?_ | with_reducible refine below_draws _ ?_ | (with_reducible refine Below.setCell ?_ ?_ _; rotate_left; focus (first | with_reducible exact Nat.le_refl _ | (simp; done) | (simp; omega) | (simp at *; omega))) | with_reducible refine ch_trans ?_ (by with_reducible assumption))), fun i h g hi => by omega⟩
    case round =>
      obtain ⟨k, hk, rfl, hb, HN⟩ := hrel
      by_cases hlt : k < cs.length
      · have hlti : (k : Int) < cs.length := by omega
        have hlt' : k < ds.length := by omega
        have hlti' : (k : Int) < ds.length := by omega
        obtain ⟨b, off, rfl, c0, c1, c2, c3, c4, c5, c6⟩ := (HC.out.on hb).cols k hlt
        obtain ⟨b', off', rfl, d0, d1, d2, d3, d4, d5, d6⟩ := (HC'.out.on hb).cols k hlt'
        cases e0 : (cs[k].name.toList == ds[k].name.toList)
        · have HB : Hid (cs ≠ ds) := fun e => by subst e; simp at e0
          go_wp2
          go_region
          all_goals
            go_wp2
            go_ret
            exact ⟨_, rfl, ⟨fun h => by simp at h, fun h => absurd h HB.out⟩, (by repeat (first | with_reducible exact Below.refl _ _ | with_reducible assumption | with_reducible refine ch_alloc ?_ _ | with_reducible refine Below.drew ?_ | with_reducible refine below_draws _ ?_ | (with_reducible refine Below.setCell ?_ ?_ _; rotate_left; focus (first | with_reducible exact Nat.le_refl _ | (simp; done) | (simp; omega) | (simp at *; omega))) | with_reducible refine ch_trans ?_ (by with_reducible assumption)))⟩
        · skip
          cases e1 : (cs[k].ty == ds[k].ty)
          · have HB : Hid (cs ≠ ds) := fun e => by subst e; simp at e1
            go_wp2
            go_region
            all_goals
              go_wp2
              go_ret
              exact ⟨_, rfl, ⟨fun h => by simp at h, fun h => absurd h HB.out⟩, (by repeat (first | with_reducible exact Below.refl _ _ | with_reducible assumption | with_reducible refine ch_alloc ?_ _ | with_reducible refine Below.drew ?_ | with_reducible refine below_draws _ ?_ | (with_reducible refine Below.setCell ?_ ?_ _; rotate_left; focus (first | with_reducible exact Nat.le_refl _ | (simp; done) | (simp; omega) | (simp at *; omega))) | with_reducible refine ch_trans ?_ (by with_reducible assumption)))⟩
          · skip
            cases e2 : (cs[k].nt == ds[k].nt)
            · have HB : Hid (cs ≠ ds) := fun e => by subst e; simp at e2
              go_wp2
              go_region
              all_goals
                go_wp2
                go_ret
                exact ⟨_, rfl, ⟨fun h => by simp at h, fun h => absurd h HB.out⟩, (by repeat (first | with_reducible exact Below.refl _ _ | with_reducible assumption | with_reducible refine ch_alloc ?_ _ | with_reducible refine Below.drew ?_ | with_reducible refine below_draws _ ?_ | (with_reducible refine Below.setCell ?_ ?_ _; rotate_left; focus (first | with_reducible exact Nat.le_refl _ | (simp; done) | (simp; omega) | (simp at *; omega))) | with_reducible refine ch_trans ?_ (by with_reducible assumption)))⟩
            · skip
              cases e3 : (cs[k].has == ds[k].has)
              · have HB : Hid (cs ≠ ds) := fun e => by subst e; simp at e3
                go_wp2
                go_region
                all_goals
                  go_wp2
                  go_ret
                  exact ⟨_, rfl, ⟨fun h => by simp at h, fun h => absurd h HB.out⟩, (by repeat (first | with_reducible exact Below.refl _ _ | with_reducible assumption | with_reducible refine ch_alloc ?_ _ | with_reducible refine Below.drew ?_ | with_reducible refine below_draws _ ?_ | (with_reducible refine Below.setCell ?_ ?_ _; rotate_left; focus (first | with_reducible exact Nat.le_refl _ | (simp; done) | (simp; omega) | (simp at *; omega))) | with_reducible refine ch_trans ?_ (by with_reducible assumption)))⟩
              · skip
                cases e4 : (cs[k].dt == ds[k].dt)
                · have HB : Hid (cs ≠ ds) := fun e => by subst e; simp at e4
                  go_wp2
                  go_region
                  all_goals
                    go_wp2
                    go_ret
                    exact ⟨_, rfl, ⟨fun h => by simp at h, fun h => absurd h HB.out⟩, (by repeat (first | with_reducible exact Below.refl _ _ | with_reducible assumption | with_reducible refine ch_alloc ?_ _ | with_reducible refine Below.drew ?_ | with_reducible refine below_draws _ ?_ | (with_reducible refine Below.setCell ?_ ?_ _; rotate_left; focus (first | with_reducible exact Nat.le_refl _ | (simp; done) | (simp; omega) | (simp at *; omega))) | with_reducible refine ch_trans ?_ (by with_reducible assumption)))⟩
                · skip
                  cases e5 : (cs[k].dn == ds[k].dn)
                  · have HB : Hid (cs ≠ ds) := fun e => by subst e; simp at e5
                    go_wp2
                    go_region
                    all_goals
                      go_wp2
                      go_ret
                      exact ⟨_, rfl, ⟨fun h => by simp at h, fun h => absurd h HB.out⟩, (by repeat (first | with_reducible exact Below.refl _ _ | with_reducible assumption | with_reducible refine ch_alloc ?_ _ | with_reducible refine Below.drew ?_ | with_reducible refine below_draws _ ?_ | (with_reducible refine Below.setCell ?_ ?_ _; rotate_left; focus (first | with_reducible exact Nat.le_refl _ | (simp; done) | (simp; omega) | (simp at *; omega))) | with_reducible refine ch_trans ?_ (by with_reducible assumption)))⟩
                  · skip
                    cases e6 : (cs[k].ds.toList == ds[k].ds.toList)
                    · have HB : Hid (cs ≠ ds) := fun e => by subst e; simp at e6
                      go_wp2
                      go_region
                      all_goals
                        go_wp2
                        go_ret
                        exact ⟨_, rfl, ⟨fun h => by simp at h, fun h => absurd h HB.out⟩, (by repeat (first | with_reducible exact Below.refl _ _ | with_reducible assumption | with_reducible refine ch_alloc ?_ _ | with_reducible refine Below.drew ?_ | with_reducible refine below_draws _ ?_ | (with_reducible refine Below.setCell ?_ ?_ _; rotate_left; focus (first | with_reducible exact Nat.le_refl _ | (simp; done) | (simp; omega) | (simp at *; omega))) | with_reducible refine ch_trans ?_ (by with_reducible assumption)))⟩
                    · skip
                      have HN' : Hid (∀ i (h : i < cs.length) (g : i < ds.length), i < k + 1 → cs[i] = ds[i]) := fun i h g hi => by
                        by_cases e : i = k
                        · subst e; exact cl_same e0 e1 e2 e3 e4 e5 e6
                        · exact HN.out i h g (by omega)
                      go_wp2
                      go_region
                      all_goals
                        go_wp2
                        go_round
                        case rel => exact ⟨k + 1, by omega, by go_num, (by repeat (first | with_reducible exact Below.refl _ _ | with_reducible assumption | with_reducible refine ch_alloc ?_ _ | with_reducible refine Below.drew ?_ | with_reducible refine below_draws _ ?_ | (with_reducible refine Below.setCell ?_ ?_ _; rotate_left; focus (first | with_reducible exact Nat.le_refl _ | (simp; done) | (simp; omega) | (simp at *; omega))) | with_reducible refine ch_trans ?_ (by with_reducible assumption))), HN'⟩
                        case measure => simp [intOf]; omega
      · have hlti : (cs.length : Int) ≤ k := by omega
        have HY : Hid (cs = ds) := List.ext_getElem hn fun i h g => HN.out i h g (by omega)
        go_wp2
        go_ret
        exact ⟨_, rfl, ⟨fun _ => HY.out, fun _ => rfl⟩, (by repeat (first | with_reducible exact Below.refl _ _ | with_reducible assumption | with_reducible refine ch_alloc ?_ _ | with_reducible refine Below.drew ?_ | with_reducible refine below_draws _ ?_ | (with_reducible refine Below.setCell ?_ ?_ _; rotate_left; focus (first | with_reducible exact Nat.le_refl _ | (simp; done) | (simp; omega) | (simp at *; omega))) | with_reducible refine ch_trans ?_ (by with_reducible assumption)))⟩
  · have HN : Hid (cs ≠ ds) := fun e => hn (by rw [e])
    have hni : ((cs.length : Int) == (ds.length : Int)) = false := by simp; omega
    go_enter Tryz.func112, Tryz.ntmps112
    go_wp2
    go_ret
    exact ⟨_, rfl, ⟨fun h => by simp at h, fun h => absurd h HN.out⟩, (by repeat (first | with_reducible exact Below.refl _ _ | with_reducible assumption | with_reducible refine ch_alloc ?_ _ | with_reducible refine Below.drew ?_ | with_reducible refine below_draws _ ?_ | (with_reducible refine Below.setCell ?_ ?_ _; rotate_left; focus (first | with_reducible exact Nat.le_refl _ | (simp; done) | (simp; omega) | (simp at *; omega))) | with_reducible refine ch_trans ?_ (by with_reducible assumption)))⟩

set_option maxRecDepth 100000 in
set_option maxHeartbeats 2000000 in
/-- slices.Equal over texts -/
theorem equalStrs (av bv : Value) (cs ds : List ByteArray) (w : World) (ha : StrsV w av cs) (hb : StrsV w bv ds) : Calls Tryz.prog 113 #[av, bv] w fun e w' => ∃ q : Bool, e = .returned (.bool q) ∧ (q = true ↔ cs = ds) ∧ Below w.heap.size w w' := by
  obtain ⟨a, cap, rfl, hl, hm, hc⟩ := ha
  obtain ⟨a', cap', rfl, hl', hm', hc'⟩ := hb
  unfold maxLen at hm hm'
  have HC : Hid (RowAt w a 1 (cs.map strX)) := hc
  have HC' : Hid (RowAt w a' 1 (ds.map strX)) := hc'
  clear hc hc'
  by_cases hn : cs.length = ds.length
  · have hni : ((cs.length : Int) == (ds.length : Int)) = true := by simp; omega
    go_enter Tryz.func113, Tryz.ntmps113
    go_wp2
    go_loopw [13] (fun i wr => ∃ k : Nat, k ≤ cs.length ∧ i = .int .i64 k ∧ Below w.heap.size w wr ∧ Hid (∀ i (h : i < cs.length) (g : i < ds.length), i < k → cs[i] = ds[i])) (fun i _ => cs.length - (intOf i).toNat)
    case atStart => exact ⟨0, Nat.zero_le _, rfl, (by repeat (first | with_reducible exact Below.refl _ _ | with_reducible assumption | with_reducible refine ch_alloc ?_ _ | with_reducible refine Below.drew ?_ | with_reducible refine below_draws _ ?_ | (with_reducible refine Below.setCell ?_ ?_ _; rotate_left; focus (first | with_reducible exact Nat.le_refl _ | (simp; done) | (simp; omega) | (simp at *; omega))) | with_reducible refine ch_trans ?_ (by with_reducible assumption))), fun i h g hi => by omega⟩
    case round =>
      obtain ⟨k, hk, rfl, hb, HN⟩ := hrel
      by_cases hlt : k < cs.length
      · have hlti : (k : Int) < cs.length := by omega
        have hlt' : k < ds.length := by omega
        have hlti' : (k : Int) < ds.length := by omega
        obtain ⟨b, off, rfl, c0⟩ := (HC.out.on hb).strs k hlt
        obtain ⟨b', off', rfl, d0⟩ := (HC'.out.on hb).strs k hlt'
        by_cases he : cs[k] = ds[k]
        · have e0 := str_yes he
          have HN' : Hid (∀ i (h : i < cs.length) (g : i < ds.length), i < k + 1 → cs[i] = ds[i]) := fun i h g hi => by
            by_cases e : i = k
            · subst e; exact he
            · exact HN.out i h g (by omega)
          clear he
          go_wp2
          go_region
          all_goals
            go_wp2
            go_round
            case rel => exact ⟨k + 1, by omega, by go_num, (by repeat (first | with_reducible exact Below.refl _ _ | with_reducible assumption | with_reducible refine ch_alloc ?_ _ | with_reducible refine Below.drew ?_ | with_reducible refine below_draws _ ?_ | (with_reducible refine Below.setCell ?_ ?_ _; rotate_left; focus (first | with_reducible exact Nat.le_refl _ | (simp; done) | (simp; omega) | (simp at *; omega))) | with_reducible refine ch_trans ?_ (by with_reducible assumption))), HN'⟩
            case measure => simp [intOf]; omega
        · have e0 := str_no he
          have HB : Hid (cs ≠ ds) := fun e => he (by subst e; rfl)
          clear he
          go_wp2
          go_region
          all_goals
            go_wp2
            go_ret
            exact ⟨_, rfl, ⟨fun h => by simp at h, fun h => absurd h HB.out⟩, (by repeat (first | with_reducible exact Below.refl _ _ | with_reducible assumption | with_reducible refine ch_alloc ?_ _ | with_reducible refine Below.drew ?_ | with_reducible refine below_draws _ ?_ | (with_reducible refine Below.setCell ?_ ?_ _; rotate_left; focus (first | with_reducible exact Nat.le_refl _ | (simp; done) | (simp; omega) | (simp at *; omega))) | with_reducible refine ch_trans ?_ (by with_reducible assumption)))⟩
      · have hlti : (cs.length : Int) ≤ k := by omega
        have HY : Hid (cs = ds) := List.ext_getElem hn fun i h g => HN.out i h g (by omega)
        go_wp2
        go_ret
        exact ⟨_, rfl, ⟨fun _ => HY.out, fun _ => rfl⟩, (by repeat (first | with_reducible exact Below.refl _ _ | with_reducible assumption | with_reducible refine ch_alloc ?_ _ | with_reducible refine Below.drew ?_ | with_reducible refine below_draws _ ?_ | (with_reducible refine Below.setCell ?_ ?_ _; rotate_left; focus (first | with_reducible exact Nat.le_refl _ | (simp; done) | (simp; omega) | (simp at *; omega))) | with_reducible refine ch_trans ?_ (by with_reducible assumption)))⟩
  · have HN : Hid (cs ≠ ds) := fun e => hn (by rw [e])
    have hni : ((cs.length : Int) == (ds.length : Int)) = false := by simp; omega
    go_enter Tryz.func113, Tryz.ntmps113
    go_wp2
    go_ret
    exact ⟨_, rfl, ⟨fun h => by simp at h, fun h => absurd h HN.out⟩, (by repeat (first | with_reducible exact Below.refl _ _ | with_reducible assumption | with_reducible refine ch_alloc ?_ _ | with_reducible refine Below.drew ?_ | with_reducible refine below_draws _ ?_ | (with_reducible refine Below.setCell ?_ ?_ _; rotate_left; focus (first | with_reducible exact Nat.le_refl _ | (simp; done) | (simp; omega) | (simp at *; omega))) | with_reducible refine ch_trans ?_ (by with_reducible assumption)))⟩

/-- Two tables are right, and the same. -/
def sameT (a b : Tc) : Prop := a.right ∧ b.right ∧ a.name = b.name ∧ a.cols = b.cols ∧ a.keys = b.keys

set_option maxRecDepth 100000 in
set_option maxHeartbeats 4000000 in
/-- impl.SameTable -/
theorem same_impl (x y : Array Value) (s t : Tc) (w : World) (hx : TabV w x s) (hy : TabV w y t) (hfs : s.fit) (hft : t.fit) :
    Calls Tryz.prog 66 #[.agg x, .agg y] w fun e w' => ∃ q : Bool, e = .returned (.bool q) ∧ (q = true ↔ sameT s t) ∧ Below w.heap.size w w' := by
  obtain ⟨a, p, o, r, rfl, hx, hc, hk⟩ := hx.lit
  obtain ⟨a', p', o', r', rfl, hy, hc', hk'⟩ := hy.lit
  obtain ⟨qs, hqs⟩ := bool_of s.right
  obtain ⟨qt, hqt⟩ := bool_of t.right
  obtain ⟨qc, hqc⟩ := bool_of (s.cols = t.cols)
  obtain ⟨qk, hqk⟩ := bool_of (s.keys = t.keys)
  have HR : Hid (sameT s t ↔ (qs = true ∧ qt = true ∧ s.name = t.name ∧ qc = true ∧ qk = true)) := by
    show _ ↔ _
    rw [hqs, hqt, hqc, hqk]; exact Iff.rfl
  have HX : Hid (TabV w #[.string s.name, .slice a s.cols.length p, .slice o s.keys.length r] s ∧ TabV w #[.string t.name, .slice a' t.cols.length p', .slice o' t.keys.length r'] t) := ⟨hx, hy⟩
  have HA : Hid (∀ u : World, TabV u #[.string s.name, .slice a s.cols.length p, .slice o s.keys.length r] s → Calls Tryz.prog 105 #[.agg #[.string s.name, .slice a s.cols.length p, .slice o s.keys.length r]] u fun e w' => e = .returned (.bool qs) ∧ Below u.heap.size u w') := fun u hu => (tableOk_impl _ s u hu hfs).mono fun e w' ⟨q, h1, h2, h3⟩ => ⟨by rw [h1, Bool.eq_iff_iff.2 (h2.trans hqs.symm)], h3⟩
  have HB : Hid (∀ u : World, TabV u #[.string t.name, .slice a' t.cols.length p', .slice o' t.keys.length r'] t → Calls Tryz.prog 105 #[.agg #[.string t.name, .slice a' t.cols.length p', .slice o' t.keys.length r']] u fun e w' => e = .returned (.bool qt) ∧ Below u.heap.size u w') := fun u hu => (tableOk_impl _ t u hu hft).mono fun e w' ⟨q, h1, h2, h3⟩ => ⟨by rw [h1, Bool.eq_iff_iff.2 (h2.trans hqt.symm)], h3⟩
  have HC : Hid (∀ u : World, ColsV u (.slice a s.cols.length p) s.cols ∧ ColsV u (.slice a' t.cols.length p') t.cols → Calls Tryz.prog 112 #[.slice a s.cols.length p, .slice a' t.cols.length p'] u fun e w' => e = .returned (.bool qc) ∧ Below u.heap.size u w') := fun u hu => (equalCols _ _ s.cols t.cols u hu.1 hu.2).mono fun e w' ⟨q, h1, h2, h3⟩ => ⟨by rw [h1, Bool.eq_iff_iff.2 (h2.trans hqc.symm)], h3⟩
  have HK : Hid (∀ u : World, StrsV u (.slice o s.keys.length r) s.keys ∧ StrsV u (.slice o' t.keys.length r') t.keys → Calls Tryz.prog 113 #[.slice o s.keys.length r, .slice o' t.keys.length r'] u fun e w' => e = .returned (.bool qk) ∧ Below u.heap.size u w') := fun u hu => (equalStrs _ _ s.keys t.keys u hu.1 hu.2).mono fun e w' ⟨q, h1, h2, h3⟩ => ⟨by rw [h1, Bool.eq_iff_iff.2 (h2.trans hqk.symm)], h3⟩
  have HCC : Hid (ColsV w (.slice a s.cols.length p) s.cols ∧ ColsV w (.slice a' t.cols.length p') t.cols) := ⟨hc, hc'⟩
  have HKK : Hid (StrsV w (.slice o s.keys.length r) s.keys ∧ StrsV w (.slice o' t.keys.length r') t.keys) := ⟨hk, hk'⟩
  have HL := Loc.new w #[.string s.name, .slice a s.cols.length p, .slice o s.keys.length r] 68
  have HM := Loc.new (w.alloc (.cells #[.string s.name, .slice a s.cols.length p, .slice o s.keys.length r] 68)) #[.string t.name, .slice a' t.cols.length p', .slice o' t.keys.length r'] 68
  clear hx hy hc hc' hk hk' hfs hft hqs hqt hqc hqk
  generalize sameT s t = R at HR ⊢
  go_enter Tryz.func66, Tryz.ntmps66
  rw [show (w.alloc (.cells #[.string s.name, .slice a s.cols.length p, .slice o s.keys.length r] 68)).heap.size = w.heap.size + 1 from by simp] at HM
  go_wp2_with fail
  refine (HA.out _ (HX.out.1.on (w' := ((w.alloc (.cells #[.string s.name, .slice a s.cols.length p, .slice o s.keys.length r] 68)).alloc (.cells #[.string t.name, .slice a' t.cols.length p', .slice o' t.keys.length r'] 68))) (by repeat (first | with_reducible exact Below.refl _ _ | with_reducible assumption | with_reducible refine ch_alloc ?_ _ | with_reducible refine Below.drew ?_ | with_reducible refine below_draws _ ?_ | (with_reducible refine Below.setCell ?_ ?_ _; rotate_left; focus (first | with_reducible exact Nat.le_refl _ | (simp; done) | (simp; omega) | (simp at *; omega))) | with_reducible refine ch_trans ?_ (by with_reducible assumption))))).mono ?_
  rintro e w1 ⟨rfl, b1⟩
  have HL1 := HL.on (w' := w1) (by repeat (first | with_reducible exact Below.refl _ _ | with_reducible assumption | with_reducible refine ch_alloc ?_ _ | with_reducible refine Below.drew ?_ | with_reducible refine below_draws _ ?_ | (with_reducible refine Below.setCell ?_ ?_ _; rotate_left; focus (first | with_reducible exact Nat.le_refl _ | (simp; done) | (simp; omega) | (simp at *; omega))) | with_reducible refine ch_trans ?_ (by with_reducible assumption)))
  have HM1 := HM.on (w' := w1) (by repeat (first | with_reducible exact Below.refl _ _ | with_reducible assumption | with_reducible refine ch_alloc ?_ _ | with_reducible refine Below.drew ?_ | with_reducible refine below_draws _ ?_ | (with_reducible refine Below.setCell ?_ ?_ _; rotate_left; focus (first | with_reducible exact Nat.le_refl _ | (simp; done) | (simp; omega) | (simp at *; omega))) | with_reducible refine ch_trans ?_ (by with_reducible assumption)))
  (try clear c0 c1 c2 d0 d1 d2)
  obtain ⟨c0, c1, c2⟩ := HL1.three
  obtain ⟨d0, d1, d2⟩ := HM1.three
  cases qs
  · have HN : Hid (¬ R) := fun h => by have := HR.out.1 h; simp at this
    go_wp2
    go_ret
    exact ⟨_, rfl, ⟨fun h => by simp at h, fun h => absurd h HN.out⟩, (by repeat (first | with_reducible exact Below.refl _ _ | with_reducible assumption | with_reducible refine ch_alloc ?_ _ | with_reducible refine Below.drew ?_ | with_reducible refine below_draws _ ?_ | (with_reducible refine Below.setCell ?_ ?_ _; rotate_left; focus (first | with_reducible exact Nat.le_refl _ | (simp; done) | (simp; omega) | (simp at *; omega))) | with_reducible refine ch_trans ?_ (by with_reducible assumption)))⟩
  go_wp2_with fail
  refine (HB.out _ (HX.out.2.on (w' := w1) (by repeat (first | with_reducible exact Below.refl _ _ | with_reducible assumption | with_reducible refine ch_alloc ?_ _ | with_reducible refine Below.drew ?_ | with_reducible refine below_draws _ ?_ | (with_reducible refine Below.setCell ?_ ?_ _; rotate_left; focus (first | with_reducible exact Nat.le_refl _ | (simp; done) | (simp; omega) | (simp at *; omega))) | with_reducible refine ch_trans ?_ (by with_reducible assumption))))).mono ?_
  rintro e w2 ⟨rfl, b2⟩
  have HL2 := HL1.on (w' := w2) (by repeat (first | with_reducible exact Below.refl _ _ | with_reducible assumption | with_reducible refine ch_alloc ?_ _ | with_reducible refine Below.drew ?_ | with_reducible refine below_draws _ ?_ | (with_reducible refine Below.setCell ?_ ?_ _; rotate_left; focus (first | with_reducible exact Nat.le_refl _ | (simp; done) | (simp; omega) | (simp at *; omega))) | with_reducible refine ch_trans ?_ (by with_reducible assumption)))
  have HM2 := HM1.on (w' := w2) (by repeat (first | with_reducible exact Below.refl _ _ | with_reducible assumption | with_reducible refine ch_alloc ?_ _ | with_reducible refine Below.drew ?_ | with_reducible refine below_draws _ ?_ | (with_reducible refine Below.setCell ?_ ?_ _; rotate_left; focus (first | with_reducible exact Nat.le_refl _ | (simp; done) | (simp; omega) | (simp at *; omega))) | with_reducible refine ch_trans ?_ (by with_reducible assumption)))
  (try clear c0 c1 c2 d0 d1 d2)
  obtain ⟨c0, c1, c2⟩ := HL2.three
  obtain ⟨d0, d1, d2⟩ := HM2.three
  cases qt
  · have HN : Hid (¬ R) := fun h => by have := HR.out.1 h; simp at this
    go_wp2
    go_ret
    exact ⟨_, rfl, ⟨fun h => by simp at h, fun h => absurd h HN.out⟩, (by repeat (first | with_reducible exact Below.refl _ _ | with_reducible assumption | with_reducible refine ch_alloc ?_ _ | with_reducible refine Below.drew ?_ | with_reducible refine below_draws _ ?_ | (with_reducible refine Below.setCell ?_ ?_ _; rotate_left; focus (first | with_reducible exact Nat.le_refl _ | (simp; done) | (simp; omega) | (simp at *; omega))) | with_reducible refine ch_trans ?_ (by with_reducible assumption)))⟩
  by_cases hn : s.name = t.name
  case neg =>
    have nq := str_no hn
    have HN : Hid (¬ R) := fun h => hn (HR.out.1 h).2.2.1
    clear hn
    go_wp2
    go_ret
    exact ⟨_, rfl, ⟨fun h => by simp at h, fun h => absurd h HN.out⟩, (by repeat (first | with_reducible exact Below.refl _ _ | with_reducible assumption | with_reducible refine ch_alloc ?_ _ | with_reducible refine Below.drew ?_ | with_reducible refine below_draws _ ?_ | (with_reducible refine Below.setCell ?_ ?_ _; rotate_left; focus (first | with_reducible exact Nat.le_refl _ | (simp; done) | (simp; omega) | (simp at *; omega))) | with_reducible refine ch_trans ?_ (by with_reducible assumption)))⟩
  have nq := str_yes hn
  have HE : Hid (s.name = t.name) := hn
  clear hn
  go_wp2_with fail
  refine (HC.out _ ⟨HCC.out.1.on (w' := w2) (by repeat (first | with_reducible exact Below.refl _ _ | with_reducible assumption | with_reducible refine ch_alloc ?_ _ | with_reducible refine Below.drew ?_ | with_reducible refine below_draws _ ?_ | (with_reducible refine Below.setCell ?_ ?_ _; rotate_left; focus (first | with_reducible exact Nat.le_refl _ | (simp; done) | (simp; omega) | (simp at *; omega))) | with_reducible refine ch_trans ?_ (by with_reducible assumption))), HCC.out.2.on (w' := w2) (by repeat (first | with_reducible exact Below.refl _ _ | with_reducible assumption | with_reducible refine ch_alloc ?_ _ | with_reducible refine Below.drew ?_ | with_reducible refine below_draws _ ?_ | (with_reducible refine Below.setCell ?_ ?_ _; rotate_left; focus (first | with_reducible exact Nat.le_refl _ | (simp; done) | (simp; omega) | (simp at *; omega))) | with_reducible refine ch_trans ?_ (by with_reducible assumption)))⟩).mono ?_
  rintro e w3 ⟨rfl, b3⟩
  have HL3 := HL2.on (w' := w3) (by repeat (first | with_reducible exact Below.refl _ _ | with_reducible assumption | with_reducible refine ch_alloc ?_ _ | with_reducible refine Below.drew ?_ | with_reducible refine below_draws _ ?_ | (with_reducible refine Below.setCell ?_ ?_ _; rotate_left; focus (first | with_reducible exact Nat.le_refl _ | (simp; done) | (simp; omega) | (simp at *; omega))) | with_reducible refine ch_trans ?_ (by with_reducible assumption)))
  have HM3 := HM2.on (w' := w3) (by repeat (first | with_reducible exact Below.refl _ _ | with_reducible assumption | with_reducible refine ch_alloc ?_ _ | with_reducible refine Below.drew ?_ | with_reducible refine below_draws _ ?_ | (with_reducible refine Below.setCell ?_ ?_ _; rotate_left; focus (first | with_reducible exact Nat.le_refl _ | (simp; done) | (simp; omega) | (simp at *; omega))) | with_reducible refine ch_trans ?_ (by with_reducible assumption)))
  (try clear c0 c1 c2 d0 d1 d2)
  obtain ⟨c0, c1, c2⟩ := HL3.three
  obtain ⟨d0, d1, d2⟩ := HM3.three
  cases qc
  · have HN : Hid (¬ R) := fun h => by have := HR.out.1 h; simp at this
    go_wp2
    go_ret
    exact ⟨_, rfl, ⟨fun h => by simp at h, fun h => absurd h HN.out⟩, (by repeat (first | with_reducible exact Below.refl _ _ | with_reducible assumption | with_reducible refine ch_alloc ?_ _ | with_reducible refine Below.drew ?_ | with_reducible refine below_draws _ ?_ | (with_reducible refine Below.setCell ?_ ?_ _; rotate_left; focus (first | with_reducible exact Nat.le_refl _ | (simp; done) | (simp; omega) | (simp at *; omega))) | with_reducible refine ch_trans ?_ (by with_reducible assumption)))⟩
  go_wp2_with fail
  refine (HK.out _ ⟨HKK.out.1.on (w' := w3) (by repeat (first | with_reducible exact Below.refl _ _ | with_reducible assumption | with_reducible refine ch_alloc ?_ _ | with_reducible refine Below.drew ?_ | with_reducible refine below_draws _ ?_ | (with_reducible refine Below.setCell ?_ ?_ _; rotate_left; focus (first | with_reducible exact Nat.le_refl _ | (simp; done) | (simp; omega) | (simp at *; omega))) | with_reducible refine ch_trans ?_ (by with_reducible assumption))), HKK.out.2.on (w' := w3) (by repeat (first | with_reducible exact Below.refl _ _ | with_reducible assumption | with_reducible refine ch_alloc ?_ _ | with_reducible refine Below.drew ?_ | with_reducible refine below_draws _ ?_ | (with_reducible refine Below.setCell ?_ ?_ _; rotate_left; focus (first | with_reducible exact Nat.le_refl _ | (simp; done) | (simp; omega) | (simp at *; omega))) | with_reducible refine ch_trans ?_ (by with_reducible assumption)))⟩).mono ?_
  rintro e w4 ⟨rfl, b4⟩
  have HL4 := HL3.on (w' := w4) (by repeat (first | with_reducible exact Below.refl _ _ | with_reducible assumption | with_reducible refine ch_alloc ?_ _ | with_reducible refine Below.drew ?_ | with_reducible refine below_draws _ ?_ | (with_reducible refine Below.setCell ?_ ?_ _; rotate_left; focus (first | with_reducible exact Nat.le_refl _ | (simp; done) | (simp; omega) | (simp at *; omega))) | with_reducible refine ch_trans ?_ (by with_reducible assumption)))
  have HM4 := HM3.on (w' := w4) (by repeat (first | with_reducible exact Below.refl _ _ | with_reducible assumption | with_reducible refine ch_alloc ?_ _ | with_reducible refine Below.drew ?_ | with_reducible refine below_draws _ ?_ | (with_reducible refine Below.setCell ?_ ?_ _; rotate_left; focus (first | with_reducible exact Nat.le_refl _ | (simp; done) | (simp; omega) | (simp at *; omega))) | with_reducible refine ch_trans ?_ (by with_reducible assumption)))
  (try clear c0 c1 c2 d0 d1 d2)
  obtain ⟨c0, c1, c2⟩ := HL4.three
  obtain ⟨d0, d1, d2⟩ := HM4.three
  have HZ : Hid (qk = true ↔ R) := by
    show _ ↔ _
    rw [HR.out]; simp [HE.out]
  go_wp2
  go_ret
  exact ⟨_, rfl, HZ.out, (by repeat (first | with_reducible exact Below.refl _ _ | with_reducible assumption | with_reducible refine ch_alloc ?_ _ | with_reducible refine Below.drew ?_ | with_reducible refine below_draws _ ?_ | (with_reducible refine Below.setCell ?_ ?_ _; rotate_left; focus (first | with_reducible exact Nat.le_refl _ | (simp; done) | (simp; omega) | (simp at *; omega))) | with_reducible refine ch_trans ?_ (by with_reducible assumption)))⟩
end Go.Proofs.YtihilcffmdjhhalGreat
