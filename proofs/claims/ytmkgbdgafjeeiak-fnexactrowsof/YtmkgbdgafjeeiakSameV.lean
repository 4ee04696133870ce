/- Whether lists of values are the same: given and landed. -/
import Derived.Test.YtmkgbdgafjeeiakVs
namespace Go.Proofs.Ytmkgbdgafjeeiak
open Go.ChangeShapes Go.WideShapes Go.ChangeAt Go.RowKit

theorem vc_same {c d : Vc} (e0 : (c.ty == d.ty) = true) (e1 : (c.n == d.n) = true) (e2 : (c.s.toList == d.s.toList) = true) : c = d := by
  rw [str_eq] at e2
  cases c; cases d
  simp at e0 e1 e2
  simp [e0, e1, e2]
theorem vc_cases (c d : Vc) : ((c.ty == d.ty) = true ∧ (c.n == d.n) = true ∧ (c.s.toList == d.s.toList) = true ∧ c = d) ∨ (c ≠ d ∧ ((c.ty == d.ty) = false ∨ ((c.ty == d.ty) = true ∧ (c.n == d.n) = false) ∨ ((c.ty == d.ty) = true ∧ (c.n == d.n) = true ∧ (c.s.toList == d.s.toList) = false))) := by
  cases e0 : c.ty == d.ty
  · exact Or.inr ⟨fun e => by subst e; simp at e0, Or.inl rfl⟩
  cases e1 : c.n == d.n
  · exact Or.inr ⟨fun e => by subst e; simp at e1, Or.inr (Or.inl ⟨rfl, rfl⟩)⟩
  cases e2 : c.s.toList == d.s.toList
  · exact Or.inr ⟨fun e => by subst e; simp at e2, Or.inr (Or.inr ⟨rfl, rfl, rfl⟩)⟩
  · exact Or.inl ⟨rfl, rfl, rfl, vc_same e0 e1 e2⟩

set_option maxRecDepth 100000 in
set_option maxHeartbeats 2000000 in
/-- spec.l03SameVals -/
theorem sameVals_spec (av bv : Value) (cs ds : List Vc) (w : World) (ha : ValsV w av cs) (hb : ValsV w bv ds) : Calls Try.prog 28 #[av, bv] w fun e w' => ∃ q : Bool, e = .returned (.bool q) ∧ (q = true ↔ cs = ds) ∧ Below w.heap.size w w' := by
  obtain ⟨a, cap, rfl, hl, hm, hc⟩ := ha
  obtain ⟨a', cap', rfl, hl', hm', hc'⟩ := hb
  unfold maxLen at hm hm'
  have HC : Hid (RowAt w a 3 (cs.map Vc.cells)) := hc
  have HC' : Hid (RowAt w a' 3 (ds.map Vc.cells)) := hc'
  clear hc hc'
  by_cases hn : cs.length = ds.length
  · have hni : ((cs.length : Int) != (ds.length : Int)) = false := by simp; omega
    have hnj : ((cs.length : Int) == (ds.length : Int)) = true := by simp; omega
    have HNL : Hid (cs.length = ds.length) := hn
    clear hn
    go_enter Try.func28, Try.ntmps28
    go_wp2
    go_loopw [13] (fun i wr => ∃ k : Nat, k ≤ cs.length ∧ i = .int .i64 k ∧ Below w.heap.size w wr ∧ Hid (∀ i (h : i < cs.length) (g : i < ds.length), i < k → cs[i] = ds[i])) (fun i _ => cs.length - (intOf i).toNat)
    case atStart => exact ⟨0, Nat.zero_le _, rfl, (by repeat (first | with_reducible exact Below.refl _ _ | with_reducible assumption | with_reducible refine ch_alloc ?_ _ | with_reducible refine Below.drew ?_ | with_reducible refine below_draws _ ?_ | (with_reducible refine Below.setCell ?_ ?_ _; rotate_left; focus (first | with_reducible exact Nat.le_refl _ | (simp; done) | (simp; omega) | (simp at *; omega))) | with_reducible refine ch_trans ?_ (by with_reducible assumption))), fun i h g hi => by omega⟩
    case round =>
      obtain ⟨k, hk, rfl, hb, HN⟩ := hrel
      by_cases hlt : k < cs.length
      · have hlti : (k : Int) < cs.length := by omega
        have hlt' : k < ds.length := by have := HNL.out; omega
        have hlti' : (k : Int) < ds.length := by omega
        obtain ⟨b, off, rfl, c0, c1, c2⟩ := (HC.out.on hb).vals k hlt
        obtain ⟨b', off', rfl, d0, d1, d2⟩ := (HC'.out.on hb).vals k hlt'
        rcases vc_cases cs[k] ds[k] with ⟨e0, e1, e2, he⟩ | ⟨hne, hcs⟩
        · have HN' : Hid (∀ i (h : i < cs.length) (g : i < ds.length), i < k + 1 → cs[i] = ds[i]) := fun i h g hi => by
            by_cases e : i = k
            · subst e; exact he
            · exact HN.out i h g (by omega)
          clear he
          go_wp2
          go_region
          all_goals
            go_wp2
            go_round
            case rel => exact ⟨k + 1, by omega, by go_num, (by repeat (first | with_reducible exact Below.refl _ _ | with_reducible assumption | with_reducible refine ch_alloc ?_ _ | with_reducible refine Below.drew ?_ | with_reducible refine below_draws _ ?_ | (with_reducible refine Below.setCell ?_ ?_ _; rotate_left; focus (first | with_reducible exact Nat.le_refl _ | (simp; done) | (simp; omega) | (simp at *; omega))) | with_reducible refine ch_trans ?_ (by with_reducible assumption))), HN'⟩
            case measure => simp [intOf]; omega
        · have HB : Hid (cs ≠ ds) := fun e => hne (by subst e; rfl)
          clear hne
          rcases hcs with e0 | ⟨e0, e1⟩ | ⟨e0, e1, e2⟩
          all_goals
            go_wp2
            go_region
            all_goals
              go_wp2
              go_ret
              exact ⟨_, rfl, ⟨fun h => by simp at h, fun h => absurd h HB.out⟩, (by repeat (first | with_reducible exact Below.refl _ _ | with_reducible assumption | with_reducible refine ch_alloc ?_ _ | with_reducible refine Below.drew ?_ | with_reducible refine below_draws _ ?_ | (with_reducible refine Below.setCell ?_ ?_ _; rotate_left; focus (first | with_reducible exact Nat.le_refl _ | (simp; done) | (simp; omega) | (simp at *; omega))) | with_reducible refine ch_trans ?_ (by with_reducible assumption)))⟩
      · have hlti : (cs.length : Int) ≤ k := by omega
        have HY : Hid (cs = ds) := List.ext_getElem HNL.out fun i h g => HN.out i h g (by omega)
        go_wp2
        go_ret
        exact ⟨_, rfl, ⟨fun _ => HY.out, fun _ => rfl⟩, (by repeat (first | with_reducible exact Below.refl _ _ | with_reducible assumption | with_reducible refine ch_alloc ?_ _ | with_reducible refine Below.drew ?_ | with_reducible refine below_draws _ ?_ | (with_reducible refine Below.setCell ?_ ?_ _; rotate_left; focus (first | with_reducible exact Nat.le_refl _ | (simp; done) | (simp; omega) | (simp at *; omega))) | with_reducible refine ch_trans ?_ (by with_reducible assumption)))⟩
  · have HN : Hid (cs ≠ ds) := fun e => hn (by rw [e])
    have hni : ((cs.length : Int) != (ds.length : Int)) = true := by simp; omega
    have hnj : ((cs.length : Int) == (ds.length : Int)) = false := by simp; omega
    clear hn
    go_enter Try.func28, Try.ntmps28
    go_wp2
    go_ret
    exact ⟨_, rfl, ⟨fun h => by simp at h, fun h => absurd h HN.out⟩, (by repeat (first | with_reducible exact Below.refl _ _ | with_reducible assumption | with_reducible refine ch_alloc ?_ _ | with_reducible refine Below.drew ?_ | with_reducible refine below_draws _ ?_ | (with_reducible refine Below.setCell ?_ ?_ _; rotate_left; focus (first | with_reducible exact Nat.le_refl _ | (simp; done) | (simp; omega) | (simp at *; omega))) | with_reducible refine ch_trans ?_ (by with_reducible assumption)))⟩

set_option maxRecDepth 100000 in
set_option maxHeartbeats 2000000 in
/-- slices.Equal over values -/
theorem equalVals (av bv : Value) (cs ds : List Vc) (w : World) (ha : ValsV w av cs) (hb : ValsV w bv ds) : Calls Try.prog 65 #[av, bv] w fun e w' => ∃ q : Bool, e = .returned (.bool q) ∧ (q = true ↔ cs = ds) ∧ Below w.heap.size w w' := by
  obtain ⟨a, cap, rfl, hl, hm, hc⟩ := ha
  obtain ⟨a', cap', rfl, hl', hm', hc'⟩ := hb
  unfold maxLen at hm hm'
  have HC : Hid (RowAt w a 3 (cs.map Vc.cells)) := hc
  have HC' : Hid (RowAt w a' 3 (ds.map Vc.cells)) := hc'
  clear hc hc'
  by_cases hn : cs.length = ds.length
  · have hni : ((cs.length : Int) != (ds.length : Int)) = false := by simp; omega
    have hnj : ((cs.length : Int) == (ds.length : Int)) = true := by simp; omega
    have HNL : Hid (cs.length = ds.length) := hn
    clear hn
    go_enter Try.func65, Try.ntmps65
    go_wp2
    go_loopw [13] (fun i wr => ∃ k : Nat, k ≤ cs.length ∧ i = .int .i64 k ∧ Below w.heap.size w wr ∧ Hid (∀ i (h : i < cs.length) (g : i < ds.length), i < k → cs[i] = ds[i])) (fun i _ => cs.length - (intOf i).toNat)
    case atStart => exact ⟨0, Nat.zero_le _, rfl, (by repeat (first | with_reducible exact Below.refl _ _ | with_reducible assumption | with_reducible refine ch_alloc ?_ _ | with_reducible refine Below.drew ?_ | with_reducible refine below_draws _ ?_ | (with_reducible refine Below.setCell ?_ ?_ _; rotate_left; focus (first | with_reducible exact Nat.le_refl _ | (simp; done) | (simp; omega) | (simp at *; omega))) | with_reducible refine ch_trans ?_ (by with_reducible assumption))), fun i h g hi => by omega⟩
    case round =>
      obtain ⟨k, hk, rfl, hb, HN⟩ := hrel
      by_cases hlt : k < cs.length
      · have hlti : (k : Int) < cs.length := by omega
        have hlt' : k < ds.length := by have := HNL.out; omega
        have hlti' : (k : Int) < ds.length := by omega
        obtain ⟨b, off, rfl, c0, c1, c2⟩ := (HC.out.on hb).vals k hlt
        obtain ⟨b', off', rfl, d0, d1, d2⟩ := (HC'.out.on hb).vals k hlt'
        rcases vc_cases cs[k] ds[k] with ⟨e0, e1, e2, he⟩ | ⟨hne, hcs⟩
        · have HN' : Hid (∀ i (h : i < cs.length) (g : i < ds.length), i < k + 1 → cs[i] = ds[i]) := fun i h g hi => by
            by_cases e : i = k
            · subst e; exact he
            · exact HN.out i h g (by omega)
          clear he
          go_wp2
          go_region
          all_goals
            go_wp2
            go_round
            case rel => exact ⟨k + 1, by omega, by go_num, (by repeat (first | with_reducible exact Below.refl _ _ | with_reducible assumption | with_reducible refine ch_alloc ?_ _ | with_reducible refine Below.drew ?_ | with_reducible refine below_draws _ ?_ | (with_reducible refine Below.setCell ?_ ?_ _; rotate_left; focus (first | with_reducible exact Nat.le_refl _ | (simp; done) | (simp; omega) | (simp at *; omega))) | with_reducible refine ch_trans ?_ (by with_reducible assumption))), HN'⟩
            case measure => simp [intOf]; omega
        · have HB : Hid (cs ≠ ds) := fun e => hne (by subst e; rfl)
          clear hne
          rcases hcs with e0 | ⟨e0, e1⟩ | ⟨e0, e1, e2⟩
          all_goals
            go_wp2
            go_region
            all_goals
              go_wp2
              go_ret
              exact ⟨_, rfl, ⟨fun h => by simp at h, fun h => absurd h HB.out⟩, (by repeat (first | with_reducible exact Below.refl _ _ | with_reducible assumption | with_reducible refine ch_alloc ?_ _ | with_reducible refine Below.drew ?_ | with_reducible refine below_draws _ ?_ | (with_reducible refine Below.setCell ?_ ?_ _; rotate_left; focus (first | with_reducible exact Nat.le_refl _ | (simp; done) | (simp; omega) | (simp at *; omega))) | with_reducible refine ch_trans ?_ (by with_reducible assumption)))⟩
      · have hlti : (cs.length : Int) ≤ k := by omega
        have HY : Hid (cs = ds) := List.ext_getElem HNL.out fun i h g => HN.out i h g (by omega)
        go_wp2
        go_ret
        exact ⟨_, rfl, ⟨fun _ => HY.out, fun _ => rfl⟩, (by repeat (first | with_reducible exact Below.refl _ _ | with_reducible assumption | with_reducible refine ch_alloc ?_ _ | with_reducible refine Below.drew ?_ | with_reducible refine below_draws _ ?_ | (with_reducible refine Below.setCell ?_ ?_ _; rotate_left; focus (first | with_reducible exact Nat.le_refl _ | (simp; done) | (simp; omega) | (simp at *; omega))) | with_reducible refine ch_trans ?_ (by with_reducible assumption)))⟩
  · have HN : Hid (cs ≠ ds) := fun e => hn (by rw [e])
    have hni : ((cs.length : Int) != (ds.length : Int)) = true := by simp; omega
    have hnj : ((cs.length : Int) == (ds.length : Int)) = false := by simp; omega
    clear hn
    go_enter Try.func65, Try.ntmps65
    go_wp2
    go_ret
    exact ⟨_, rfl, ⟨fun h => by simp at h, fun h => absurd h HN.out⟩, (by repeat (first | with_reducible exact Below.refl _ _ | with_reducible assumption | with_reducible refine ch_alloc ?_ _ | with_reducible refine Below.drew ?_ | with_reducible refine below_draws _ ?_ | (with_reducible refine Below.setCell ?_ ?_ _; rotate_left; focus (first | with_reducible exact Nat.le_refl _ | (simp; done) | (simp; omega) | (simp at *; omega))) | with_reducible refine ch_trans ?_ (by with_reducible assumption)))⟩
end Go.Proofs.Ytmkgbdgafjeeiak
