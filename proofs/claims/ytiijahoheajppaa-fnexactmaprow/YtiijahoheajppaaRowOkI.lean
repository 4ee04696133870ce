/- Whether a row is right: given and landed. -/
import Derived.Test.YtiijahoheajppaaFits
import Derived.Test.YtiijahoheajppaaTbOkI
import Derived.Test.YtiijahoheajppaaBo
import Derived.Deep.RegionWith
namespace Go.Proofs.Ytiijahoheajppaa
open Go.ChangeShapes Go.WideShapes Go.ChangeAt Go.RowKit

/-- A row has a value for each column that may stand there. -/
def rowFits (cs : List Cl) (vs : List Vc) : Prop := vs.length = cs.length ∧ ∀ i (h : i < cs.length) (g : i < vs.length), fitsB cs[i] vs[i] = true
/-- A row is right. -/
def rowRight (t : Tc) (vs : List Vc) : Prop := t.right ∧ rowFits t.cols vs

set_option maxRecDepth 100000 in
set_option maxHeartbeats 2000000 in
/-- impl.rowFits -/
theorem rowFits_impl (x : Array Value) (t : Tc) (v : Value) (vs : List Vc) (w : World) (hx : TabV w x t) (hv : ValsV w v vs) :
    Calls Try.prog 66 #[.agg x, .agg #[v]] w fun e w' => ∃ q : Bool, e = .returned (.bool q) ∧ (q = true ↔ rowFits t.cols vs) ∧ Below w.heap.size w w' := by
  obtain ⟨a, p, o, r, rfl, hx, hc, hk⟩ := hx.lit
  obtain ⟨a', p', rfl, hl', hm', hv⟩ := hv.lit
  have hcap : t.cols.length ≤ 9223372036854775807 ∧ vs.length ≤ 9223372036854775807 := by
    obtain ⟨_, _, e, h1, h2, _⟩ := hc
    unfold maxLen at h2 hm'
    omega
  obtain ⟨hl1, hl2⟩ := hcap
  clear hl' hm'
  have HC : Hid (RowAt w a 7 (t.cols.map Cl.cells)) := by
    obtain ⟨_, _, e, _, _, h⟩ := hc
    cases e
    exact h
  have HV : Hid (RowAt w a' 3 (vs.map Vc.cells)) := hv.row
  have HL := Loc.new w #[.string t.name, .slice a t.cols.length p, .slice o t.keys.length r] 32
  have HM := Loc.new (w.alloc (.cells #[.string t.name, .slice a t.cols.length p, .slice o t.keys.length r] 32)) #[.slice a' vs.length p'] 41
  rw [show (w.alloc (.cells #[.string t.name, .slice a t.cols.length p, .slice o t.keys.length r] 32)).heap.size = w.heap.size + 1 from by simp] at HM
  have HR : Hid (rowFits t.cols vs ↔ (vs.length = t.cols.length ∧ ∀ i (h : i < t.cols.length) (g : i < vs.length), fitsB t.cols[i] vs[i] = true)) := Iff.rfl
  generalize rowFits t.cols vs = R at HR ⊢
  clear hx hc hk hv
  by_cases hn : vs.length = t.cols.length
  case neg =>
    have hn' : ((vs.length : Int) != (t.cols.length : Int)) = true := by simp; omega
    go_enter Try.func66, Try.ntmps66
    go_wp2
    go_ret
    exact ⟨_, rfl, ⟨fun h => by simp at h, fun h => absurd (HR.out.1 h).1 hn⟩, (by repeat (first | with_reducible exact Below.refl _ _ | with_reducible assumption | with_reducible refine ch_alloc ?_ _ | with_reducible refine Below.drew ?_ | with_reducible refine below_draws _ ?_ | (with_reducible refine Below.setCell ?_ ?_ _; rotate_left; focus (first | with_reducible exact Nat.le_refl _ | (simp; done) | (simp; omega) | (simp at *; omega))) | with_reducible refine ch_trans ?_ (by with_reducible assumption)))⟩
  have hn' : ((vs.length : Int) != (t.cols.length : Int)) = false := by simp; omega
  have HNL : Hid (vs.length = t.cols.length) := hn
  clear hn
  go_enter Try.func66, Try.ntmps66
  go_wp2
  have HL2 := HL.on1 (.cells #[.slice a' vs.length p'] 41)
  have hbz : Below w.heap.size w ((w.alloc (.cells #[.string t.name, .slice a t.cols.length p, .slice o t.keys.length r] 32)).alloc (.cells #[.slice a' vs.length p'] 41)) := (by repeat (first | with_reducible exact Below.refl _ _ | with_reducible assumption | with_reducible refine ch_alloc ?_ _ | with_reducible refine Below.drew ?_ | with_reducible refine below_draws _ ?_ | (with_reducible refine Below.setCell ?_ ?_ _; rotate_left; focus (first | with_reducible exact Nat.le_refl _ | (simp; done) | (simp; omega) | (simp at *; omega))) | with_reducible refine ch_trans ?_ (by with_reducible assumption)))
  generalize ((w.alloc (.cells #[.string t.name, .slice a t.cols.length p, .slice o t.keys.length r] 32)).alloc (.cells #[.slice a' vs.length p'] 41)) = wz at HL2 HM hbz ⊢
  go_loopw [17] (fun i wr => ∃ k : Nat, k ≤ t.cols.length ∧ i = .int .i64 k ∧ Below wz.heap.size wz wr ∧ Hid (∀ i (h : i < t.cols.length) (g : i < vs.length), i < k → fitsB t.cols[i] vs[i] = true)) (fun i _ => t.cols.length - (intOf i).toNat)
  case atStart => exact ⟨0, Nat.zero_le _, rfl, Below.refl _ _, fun i h g hi => by omega⟩
  case round =>
    obtain ⟨k, hk, rfl, hb, HN⟩ := hrel
    have hbw : Below w.heap.size w wz := hbz
    clear hbz
    have hbr : Below w.heap.size w wr := ch_trans hbw hb
    have HL1 := HL2.on hb
    have HM1 := HM.on hb
    obtain ⟨l0, l1, l2⟩ := HL1.three
    have m0 := HM1.one
    have HMX := HM1
    by_cases hlt : k < t.cols.length
    · have hlti : (k : Int) < t.cols.length := by omega
      have hlt' : k < vs.length := by have := HNL.out; omega
      have hlti' : (k : Int) < vs.length := by omega
      obtain ⟨b, off, rfl, c0, c1, c2, c3, c4, c5, c6⟩ := (HC.out.on hbr).cols k hlt
      obtain ⟨b', off', rfl, d0, d1, d2⟩ := (HV.out.on (w' := wr.alloc (.cells #[.string t.cols[k].name, .int .i64 t.cols[k].ty, .bool t.cols[k].nt, .bool t.cols[k].has, .int .i64 t.cols[k].dt, .int .i64 t.cols[k].dn, .string t.cols[k].ds] 60)) (ch_alloc hbr _)).vals k hlt'
      have m1 := (HMX.on1 (.cells #[.string t.cols[k].name, .int .i64 t.cols[k].ty, .bool t.cols[k].nt, .bool t.cols[k].has, .int .i64 t.cols[k].dt, .int .i64 t.cols[k].dn, .string t.cols[k].ds] 60)).one
      have HS : Hid (∀ u : World, Calls Try.prog 70 #[t.cols[k].v, vs[k].v] u fun e w' => e = .returned (.bool (fitsB t.cols[k] vs[k])) ∧ Below u.heap.size u w') := fun u => fits_impl _ _ u
      cases hq : fitsB t.cols[k] vs[k]
      · have HB : Hid (¬ R) := fun h => by have := (HR.out.1 h).2 k hlt hlt'; rw [hq] at this; cases this
        rw [hq] at HS
        clear hq
        go_wp2_with fail
        go_region_with (go_at_call 70; refine (HS.out _).mono ?_; rintro e w1 ⟨rfl, b1⟩)
        all_goals
          go_wp2
          go_ret
          exact ⟨_, rfl, ⟨fun h => by simp at h, fun h => absurd h HB.out⟩, (by repeat (first | with_reducible exact Below.refl _ _ | with_reducible assumption | with_reducible refine ch_alloc ?_ _ | with_reducible refine Below.drew ?_ | with_reducible refine below_draws _ ?_ | (with_reducible refine Below.setCell ?_ ?_ _; rotate_left; focus (first | with_reducible exact Nat.le_refl _ | (simp; done) | (simp; omega) | (simp at *; omega))) | with_reducible refine ch_trans ?_ (by with_reducible assumption)))⟩
      · have HN' : Hid (∀ i (h : i < t.cols.length) (g : i < vs.length), i < k + 1 → fitsB t.cols[i] vs[i] = true) := fun i h g hi => by
          by_cases e : i = k
          · subst e; exact hq
          · exact HN.out i h g (by omega)
        rw [hq] at HS
        clear hq
        go_wp2_with fail
        go_region_with (go_at_call 70; refine (HS.out _).mono ?_; rintro e w1 ⟨rfl, b1⟩)
        all_goals
          go_wp2
          go_round
          case rel => exact ⟨k + 1, by omega, by go_num, (by repeat (first | with_reducible exact Below.refl _ _ | with_reducible assumption | with_reducible refine ch_alloc ?_ _ | with_reducible refine Below.drew ?_ | with_reducible refine below_draws _ ?_ | (with_reducible refine Below.setCell ?_ ?_ _; rotate_left; focus (first | with_reducible exact Nat.le_refl _ | (simp; done) | (simp; omega) | (simp at *; omega))) | with_reducible refine ch_trans ?_ (by with_reducible assumption))), HN'⟩
          case measure => simp [intOf]; omega
    · have hlti : (t.cols.length : Int) ≤ k := by omega
      have HY : Hid R := HR.out.2 ⟨HNL.out, fun i h g => HN.out i h g (by omega)⟩
      go_wp2
      go_ret
      exact ⟨_, rfl, ⟨fun _ => HY.out, fun _ => rfl⟩, (by repeat (first | with_reducible exact Below.refl _ _ | with_reducible assumption | with_reducible refine ch_alloc ?_ _ | with_reducible refine Below.drew ?_ | with_reducible refine below_draws _ ?_ | (with_reducible refine Below.setCell ?_ ?_ _; rotate_left; focus (first | with_reducible exact Nat.le_refl _ | (simp; done) | (simp; omega) | (simp at *; omega))) | with_reducible refine ch_trans ?_ (by with_reducible assumption)))⟩

set_option maxRecDepth 100000 in
set_option maxHeartbeats 2000000 in
/-- spec.RowOk -/
theorem rowOk_spec (x : Array Value) (t : Tc) (v : Value) (vs : List Vc) (w : World) (hx : TabV w x t) (hv : ValsV w v vs) (hf : t.fit) :
    Calls Try.prog 65 #[.agg x, .agg #[v]] w fun e w' => ∃ q : Bool, e = .returned (.bool q) ∧ (q = true ↔ rowRight t vs) ∧ Below w.heap.size w w' := by
  obtain ⟨a, p, o, r, rfl, hx, hc, hk⟩ := hx.lit
  obtain ⟨a', p', rfl, hl', hm', hv⟩ := hv.lit
  have hcap : t.cols.length ≤ 9223372036854775807 ∧ vs.length ≤ 9223372036854775807 := by
    obtain ⟨_, _, e, h1, h2, _⟩ := hc
    unfold maxLen at h2 hm'
    omega
  obtain ⟨hl1, hl2⟩ := hcap
  clear hl' hm'
  obtain ⟨qs, hqs⟩ := bool_of t.right
  have HX : Hid (TabV w #[.string t.name, .slice a t.cols.length p, .slice o t.keys.length r] t) := hx
  have HC : Hid (RowAt w a 7 (t.cols.map Cl.cells)) := by
    obtain ⟨_, _, e, _, _, h⟩ := hc
    cases e
    exact h
  have HV : Hid (RowAt w a' 3 (vs.map Vc.cells)) := hv.row
  have HA : Hid (∀ u : World, TabV u #[.string t.name, .slice a t.cols.length p, .slice o t.keys.length r] t → Calls Try.prog 29 #[.agg #[.string t.name, .slice a t.cols.length p, .slice o t.keys.length r]] u fun e w' => e = .returned (.bool qs) ∧ Below u.heap.size u w') := fun u hu => (tableOk_spec _ t u hu hf).mono fun e w' ⟨q, h1, h2, h3⟩ => ⟨by rw [h1, Bool.eq_iff_iff.2 (h2.trans hqs.symm)], h3⟩
  have HR : Hid (rowRight t vs ↔ (qs = true ∧ vs.length = t.cols.length ∧ ∀ i (h : i < t.cols.length) (g : i < vs.length), fitsB t.cols[i] vs[i] = true)) := by show _ ↔ _; rw [hqs]; exact Iff.rfl
  have HL := Loc.new w #[.string t.name, .slice a t.cols.length p, .slice o t.keys.length r] 32
  have HM := Loc.new (w.alloc (.cells #[.string t.name, .slice a t.cols.length p, .slice o t.keys.length r] 32)) #[.slice a' vs.length p'] 41
  rw [show (w.alloc (.cells #[.string t.name, .slice a t.cols.length p, .slice o t.keys.length r] 32)).heap.size = w.heap.size + 1 from by simp] at HM
  clear hx hc hk hv hqs hf
  generalize rowRight t vs = R at HR ⊢
  go_enter Try.func65, Try.ntmps65
  go_wp2_with fail
  refine (HA.out _ (HX.out.on (w' := ((w.alloc (.cells #[.string t.name, .slice a t.cols.length p, .slice o t.keys.length r] 32)).alloc (.cells #[.slice a' vs.length p'] 41))) (by repeat (first | with_reducible exact Below.refl _ _ | with_reducible assumption | with_reducible refine ch_alloc ?_ _ | with_reducible refine Below.drew ?_ | with_reducible refine below_draws _ ?_ | (with_reducible refine Below.setCell ?_ ?_ _; rotate_left; focus (first | with_reducible exact Nat.le_refl _ | (simp; done) | (simp; omega) | (simp at *; omega))) | with_reducible refine ch_trans ?_ (by with_reducible assumption))))).mono ?_
  rintro e w1 ⟨rfl, b1⟩
  have HL1 := HL.on (w' := w1) (by repeat (first | with_reducible exact Below.refl _ _ | with_reducible assumption | with_reducible refine ch_alloc ?_ _ | with_reducible refine Below.drew ?_ | with_reducible refine below_draws _ ?_ | (with_reducible refine Below.setCell ?_ ?_ _; rotate_left; focus (first | with_reducible exact Nat.le_refl _ | (simp; done) | (simp; omega) | (simp at *; omega))) | with_reducible refine ch_trans ?_ (by with_reducible assumption)))
  have HM1 := HM.on (w' := w1) (by repeat (first | with_reducible exact Below.refl _ _ | with_reducible assumption | with_reducible refine ch_alloc ?_ _ | with_reducible refine Below.drew ?_ | with_reducible refine below_draws _ ?_ | (with_reducible refine Below.setCell ?_ ?_ _; rotate_left; focus (first | with_reducible exact Nat.le_refl _ | (simp; done) | (simp; omega) | (simp at *; omega))) | with_reducible refine ch_trans ?_ (by with_reducible assumption)))
  obtain ⟨f0, f1, f2⟩ := HL1.three
  have g0 := HM1.one
  cases qs
  · have HN : Hid (¬ R) := fun h => by have := HR.out.1 h; simp at this
    go_wp2
    go_ret
    exact ⟨_, rfl, ⟨fun h => by simp at h, fun h => absurd h HN.out⟩, (by repeat (first | with_reducible exact Below.refl _ _ | with_reducible assumption | with_reducible refine ch_alloc ?_ _ | with_reducible refine Below.drew ?_ | with_reducible refine below_draws _ ?_ | (with_reducible refine Below.setCell ?_ ?_ _; rotate_left; focus (first | with_reducible exact Nat.le_refl _ | (simp; done) | (simp; omega) | (simp at *; omega))) | with_reducible refine ch_trans ?_ (by with_reducible assumption)))⟩
  by_cases hn : vs.length = t.cols.length
  case neg =>
    have hn' : ((vs.length : Int) != (t.cols.length : Int)) = true := by simp; omega
    go_wp2
    go_ret
    exact ⟨_, rfl, ⟨fun h => by simp at h, fun h => absurd (HR.out.1 h).2.1 hn⟩, (by repeat (first | with_reducible exact Below.refl _ _ | with_reducible assumption | with_reducible refine ch_alloc ?_ _ | with_reducible refine Below.drew ?_ | with_reducible refine below_draws _ ?_ | (with_reducible refine Below.setCell ?_ ?_ _; rotate_left; focus (first | with_reducible exact Nat.le_refl _ | (simp; done) | (simp; omega) | (simp at *; omega))) | with_reducible refine ch_trans ?_ (by with_reducible assumption)))⟩
  have hn' : ((vs.length : Int) != (t.cols.length : Int)) = false := by simp; omega
  have HNL : Hid (vs.length = t.cols.length) := hn
  clear hn
  go_wp2
  clear f0 f1 f2 g0
  go_loopw [22] (fun i wr => ∃ k : Nat, k ≤ t.cols.length ∧ i = .int .i64 k ∧ Below w1.heap.size w1 wr ∧ Hid (∀ i (h : i < t.cols.length) (g : i < vs.length), i < k → fitsB t.cols[i] vs[i] = true)) (fun i _ => t.cols.length - (intOf i).toNat)
  case atStart => exact ⟨0, Nat.zero_le _, rfl, Below.refl _ _, fun i h g hi => by omega⟩
  case round =>
    obtain ⟨k, hk, rfl, hb, HN⟩ := hrel
    have hbw : Below w.heap.size w w1 := (by repeat (first | with_reducible exact Below.refl _ _ | with_reducible assumption | with_reducible refine ch_alloc ?_ _ | with_reducible refine Below.drew ?_ | with_reducible refine below_draws _ ?_ | (with_reducible refine Below.setCell ?_ ?_ _; rotate_left; focus (first | with_reducible exact Nat.le_refl _ | (simp; done) | (simp; omega) | (simp at *; omega))) | with_reducible refine ch_trans ?_ (by with_reducible assumption)))
    clear b1
    have hbr : Below w.heap.size w wr := ch_trans hbw hb
    have HL3 := HL1.on hb
    have HM3 := HM1.on hb
    obtain ⟨l0, l1, l2⟩ := HL3.three
    have m0 := HM3.one
    have HMX := HM3
    by_cases hlt : k < t.cols.length
    · have hlti : (k : Int) < t.cols.length := by omega
      have hlt' : k < vs.length := by have := HNL.out; omega
      have hlti' : (k : Int) < vs.length := by omega
      obtain ⟨b, off, rfl, c0, c1, c2, c3, c4, c5, c6⟩ := (HC.out.on hbr).cols k hlt
      obtain ⟨b', off', rfl, d0, d1, d2⟩ := (HV.out.on (w' := wr.alloc (.cells #[.string t.cols[k].name, .int .i64 t.cols[k].ty, .bool t.cols[k].nt, .bool t.cols[k].has, .int .i64 t.cols[k].dt, .int .i64 t.cols[k].dn, .string t.cols[k].ds] 60)) (ch_alloc hbr _)).vals k hlt'
      have m1 := (HMX.on1 (.cells #[.string t.cols[k].name, .int .i64 t.cols[k].ty, .bool t.cols[k].nt, .bool t.cols[k].has, .int .i64 t.cols[k].dt, .int .i64 t.cols[k].dn, .string t.cols[k].ds] 60)).one
      have HS : Hid (∀ u : World, Calls Try.prog 67 #[t.cols[k].v, vs[k].v] u fun e w' => e = .returned (.bool (fitsB t.cols[k] vs[k])) ∧ Below u.heap.size u w') := fun u => fits_spec _ _ u
      cases hq : fitsB t.cols[k] vs[k]
      · have HB : Hid (¬ R) := fun h => by have := (HR.out.1 h).2.2 k hlt hlt'; rw [hq] at this; cases this
        rw [hq] at HS
        clear hq
        go_wp2_with fail
        go_region_with (go_at_call 67; refine (HS.out _).mono ?_; rintro e w1 ⟨rfl, b1⟩)
        all_goals
          go_wp2
          go_ret
          exact ⟨_, rfl, ⟨fun h => by simp at h, fun h => absurd h HB.out⟩, (by repeat (first | with_reducible exact Below.refl _ _ | with_reducible assumption | with_reducible refine ch_alloc ?_ _ | with_reducible refine Below.drew ?_ | with_reducible refine below_draws _ ?_ | (with_reducible refine Below.setCell ?_ ?_ _; rotate_left; focus (first | with_reducible exact Nat.le_refl _ | (simp; done) | (simp; omega) | (simp at *; omega))) | with_reducible refine ch_trans ?_ (by with_reducible assumption)))⟩
      · have HN' : Hid (∀ i (h : i < t.cols.length) (g : i < vs.length), i < k + 1 → fitsB t.cols[i] vs[i] = true) := fun i h g hi => by
          by_cases e : i = k
          · subst e; exact hq
          · exact HN.out i h g (by omega)
        rw [hq] at HS
        clear hq
        go_wp2_with fail
        go_region_with (go_at_call 67; refine (HS.out _).mono ?_; rintro e w1 ⟨rfl, b1⟩)
        all_goals
          go_wp2
          go_round
          case rel => exact ⟨k + 1, by omega, by go_num, (by repeat (first | with_reducible exact Below.refl _ _ | with_reducible assumption | with_reducible refine ch_alloc ?_ _ | with_reducible refine Below.drew ?_ | with_reducible refine below_draws _ ?_ | (with_reducible refine Below.setCell ?_ ?_ _; rotate_left; focus (first | with_reducible exact Nat.le_refl _ | (simp; done) | (simp; omega) | (simp at *; omega))) | with_reducible refine ch_trans ?_ (by with_reducible assumption))), HN'⟩
          case measure => simp [intOf]; omega
    · have hlti : (t.cols.length : Int) ≤ k := by omega
      have HY : Hid R := HR.out.2 ⟨by trivial, HNL.out, fun i h g => HN.out i h g (by omega)⟩
      go_wp2
      go_ret
      exact ⟨_, rfl, ⟨fun _ => HY.out, fun _ => rfl⟩, (by repeat (first | with_reducible exact Below.refl _ _ | with_reducible assumption | with_reducible refine ch_alloc ?_ _ | with_reducible refine Below.drew ?_ | with_reducible refine below_draws _ ?_ | (with_reducible refine Below.setCell ?_ ?_ _; rotate_left; focus (first | with_reducible exact Nat.le_refl _ | (simp; done) | (simp; omega) | (simp at *; omega))) | with_reducible refine ch_trans ?_ (by with_reducible assumption)))⟩
end Go.Proofs.Ytiijahoheajppaa
