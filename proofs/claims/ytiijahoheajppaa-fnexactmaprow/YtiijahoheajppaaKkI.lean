/- Whether a key is right: given and landed. -/
import Derived.Test.YtiijahoheajppaaFits
import Derived.Test.YtiijahoheajppaaKp
import Derived.Test.YtiijahoheajppaaMr
import Derived.Deep.RegionWith
namespace Go.Proofs.Ytiijahoheajppaa
open Go.ChangeShapes Go.WideShapes Go.ChangeAt Go.RowKit

/-- A key has a value for each of the keys' columns that may stand there. -/
def keyFits (t : Tc) (vs : List Vc) : Prop := vs.length = t.keys.length ∧ ∀ i (h : i < t.keys.length) (g : i < vs.length), ∃ g' : (colAt t.cols t.keys[i]).toNat < t.cols.length, fitsB t.cols[(colAt t.cols t.keys[i]).toNat] vs[i] = true
/-- A key is right. -/
def keyRight (t : Tc) (vs : List Vc) : Prop := t.right ∧ keyFits t vs
theorem bool_of' (p : Prop) : ∃ q : Bool, q = true ↔ p := by
  by_cases h : p
  · exact ⟨true, by simp [h]⟩
  · exact ⟨false, by simp [h]⟩

set_option maxRecDepth 100000 in
set_option maxHeartbeats 2000000 in
/-- impl.KeyOk -/
theorem keyOk_impl (x : Array Value) (t : Tc) (v : Value) (vs : List Vc) (w : World) (hx : TabV w x t) (hv : ValsV w v vs) (hf : t.fit) :
    Calls Try.prog 54 #[.agg x, v] w fun e w' => ∃ q : Bool, e = .returned (.bool q) ∧ (q = true ↔ keyRight t vs) ∧ Below w.heap.size w w' := by
  obtain ⟨a, p, o, r, rfl, hx, hc, hk⟩ := hx.lit
  obtain ⟨a', p', rfl, hl', hm', hv⟩ := hv.lit
  have hcap : t.cols.length ≤ 9223372036854775807 ∧ t.keys.length ≤ 9223372036854775807 ∧ vs.length ≤ 9223372036854775807 := by
    obtain ⟨_, _, e, h1, h2, _⟩ := hc
    obtain ⟨_, _, e', h1', h2', _⟩ := hk
    unfold maxLen at h2 h2' hm'
    omega
  obtain ⟨hl1, hl2, hl3⟩ := hcap
  clear hl' hm'
  obtain ⟨qs, hqs⟩ := bool_of' t.right
  have HX : Hid (TabV w #[.string t.name, .slice a t.cols.length p, .slice o t.keys.length r] t) := hx
  have HC : Hid (RowAt w a 7 (t.cols.map Cl.cells)) := by
    obtain ⟨_, _, e, _, _, h⟩ := hc
    cases e
    exact h
  have HV : Hid (RowAt w a' 3 (vs.map Vc.cells)) := hv.row
  have HF : Hid t.fit := hf
  have HQS : Hid (qs = true ↔ t.right) := hqs
  have HA : Hid (∀ u : World, TabV u #[.string t.name, .slice a t.cols.length p, .slice o t.keys.length r] t → Calls Try.prog 36 #[.agg #[.string t.name, .slice a t.cols.length p, .slice o t.keys.length r]] u fun e w' => e = .returned (.bool qs) ∧ Below u.heap.size u w') := fun u hu => (tableOk_impl _ t u hu hf).mono fun e w' ⟨q, h1, h2, h3⟩ => ⟨by rw [h1, Bool.eq_iff_iff.2 (h2.trans hqs.symm)], h3⟩
  have HR : Hid (keyRight t vs ↔ (qs = true ∧ vs.length = t.keys.length ∧ ∀ i (h : i < t.keys.length) (g : i < vs.length), ∃ g' : (colAt t.cols t.keys[i]).toNat < t.cols.length, fitsB t.cols[(colAt t.cols t.keys[i]).toNat] vs[i] = true)) := by show _ ↔ _; rw [hqs]; exact Iff.rfl
  have HL := Loc.new w #[.string t.name, .slice a t.cols.length p, .slice o t.keys.length r] 32
  clear hx hc hk hv hqs hf
  generalize keyRight t vs = R at HR ⊢
  go_enter Try.func54, Try.ntmps54
  go_wp2_with fail
  refine (HA.out _ (HX.out.on (w' := w.alloc (.cells #[.string t.name, .slice a t.cols.length p, .slice o t.keys.length r] 32)) (by repeat (first | with_reducible exact Below.refl _ _ | with_reducible assumption | with_reducible refine ch_alloc ?_ _ | with_reducible refine Below.drew ?_ | with_reducible refine below_draws _ ?_ | (with_reducible refine Below.setCell ?_ ?_ _; rotate_left; focus (first | with_reducible exact Nat.le_refl _ | (simp; done) | (simp; omega) | (simp at *; omega))) | with_reducible refine ch_trans ?_ (by with_reducible assumption))))).mono ?_
  rintro e w1 ⟨rfl, b1⟩
  have HL1 := HL.on (w' := w1) (by repeat (first | with_reducible exact Below.refl _ _ | with_reducible assumption | with_reducible refine ch_alloc ?_ _ | with_reducible refine Below.drew ?_ | with_reducible refine below_draws _ ?_ | (with_reducible refine Below.setCell ?_ ?_ _; rotate_left; focus (first | with_reducible exact Nat.le_refl _ | (simp; done) | (simp; omega) | (simp at *; omega))) | with_reducible refine ch_trans ?_ (by with_reducible assumption)))
  have hb1 : Below w.heap.size w w1 := (by repeat (first | with_reducible exact Below.refl _ _ | with_reducible assumption | with_reducible refine ch_alloc ?_ _ | with_reducible refine Below.drew ?_ | with_reducible refine below_draws _ ?_ | (with_reducible refine Below.setCell ?_ ?_ _; rotate_left; focus (first | with_reducible exact Nat.le_refl _ | (simp; done) | (simp; omega) | (simp at *; omega))) | with_reducible refine ch_trans ?_ (by with_reducible assumption)))
  clear b1
  obtain ⟨f0, f1, f2⟩ := HL1.three
  cases qs
  · have HN : Hid (¬ R) := fun h => by have := HR.out.1 h; simp at this
    go_wp2
    go_ret
    exact ⟨_, rfl, ⟨fun h => by simp at h, fun h => absurd h HN.out⟩, (by repeat (first | with_reducible exact Below.refl _ _ | with_reducible assumption | with_reducible refine ch_alloc ?_ _ | with_reducible refine Below.drew ?_ | with_reducible refine below_draws _ ?_ | (with_reducible refine Below.setCell ?_ ?_ _; rotate_left; focus (first | with_reducible exact Nat.le_refl _ | (simp; done) | (simp; omega) | (simp at *; omega))) | with_reducible refine ch_trans ?_ (by with_reducible assumption)))⟩
  by_cases hn : vs.length = t.keys.length
  case neg =>
    have hn' : ((vs.length : Int) != (t.keys.length : Int)) = true := by simp; omega
    go_wp2
    go_ret
    exact ⟨_, rfl, ⟨fun h => by simp at h, fun h => absurd (HR.out.1 h).2.1 hn⟩, (by repeat (first | with_reducible exact Below.refl _ _ | with_reducible assumption | with_reducible refine ch_alloc ?_ _ | with_reducible refine Below.drew ?_ | with_reducible refine below_draws _ ?_ | (with_reducible refine Below.setCell ?_ ?_ _; rotate_left; focus (first | with_reducible exact Nat.le_refl _ | (simp; done) | (simp; omega) | (simp at *; omega))) | with_reducible refine ch_trans ?_ (by with_reducible assumption)))⟩
  have hn' : ((vs.length : Int) != (t.keys.length : Int)) = false := by simp; omega
  have HNL : Hid (vs.length = t.keys.length) := hn
  clear hn
  go_wp2_with fail
  refine (keyPlacesOf_any _ t _ (HX.out.on (w' := w1) hb1) HF.out (HQS.out.1 (by trivial))).mono ?_
  rintro e w2 ⟨pv, rfl, b2, hi⟩
  obtain ⟨ai, ci, rfl, _, hci, hi⟩ := hi.lit
  have HI : Hid (RowAt w2 ai 1 (t.places.map intX)) := hi.row
  have HPL : Hid (t.places.length = t.keys.length) := by show _ = _; simp [Tc.places]
  have hpl : t.places.length ≤ 9223372036854775807 := by have := HPL.out; omega
  have HL2 := HL1.on b2
  have hb2 : Below w.heap.size w w2 := ch_trans hb1 b2
  clear hi hci b2 f0 f1 f2 hb1
  go_wp2
  go_loopw [21] (fun i wr => ∃ k : Nat, k ≤ t.places.length ∧ i = .int .i64 k ∧ Below w2.heap.size w2 wr ∧ Hid (∀ i (h : i < t.keys.length) (g : i < vs.length), i < k → ∃ g' : (colAt t.cols t.keys[i]).toNat < t.cols.length, fitsB t.cols[(colAt t.cols t.keys[i]).toNat] vs[i] = true)) (fun i _ => t.places.length - (intOf i).toNat)
  case atStart => exact ⟨0, Nat.zero_le _, rfl, Below.refl _ _, fun i h g hi => by omega⟩
  case round =>
    obtain ⟨k, hk, rfl, hb, HN⟩ := hrel
    have hbr : Below w.heap.size w wr := ch_trans hb2 hb
    have HL3 := HL2.on hb
    obtain ⟨l0, l1, l2⟩ := HL3.three
    by_cases hlt : k < t.places.length
    · have hlti : (k : Int) < t.places.length := by omega
      have hltk : k < t.keys.length := by have := HPL.out; omega
      have hlt' : k < vs.length := by have := HPL.out; have := HNL.out; omega
      have hlti' : (k : Int) < vs.length := by omega
      obtain ⟨b, off, rfl, c0⟩ := (HI.out.on hb).ints k hlt
      obtain ⟨i, hi, hci⟩ : ∃ i, ∃ hi : i < t.cols.length, colAt t.cols t.keys[k] = (i : Int) := by
        obtain ⟨i, hi, h, _⟩ := right_key (HQS.out.1 (by trivial)) k hltk
        exact ⟨i, hi, h⟩
      have hpk : t.places[k] = (i : Int) := by simp [Tc.places, hci]
      rw [hpk] at c0
      obtain ⟨b1, off1, rfl, d0, d1, d2, d3, d4, d5, d6⟩ := (HC.out.on hbr).cols i hi
      obtain ⟨b2, off2, rfl, e0, e1, e2⟩ := (HV.out.on hbr).vals k hlt'
      have hii : (i : Int) < t.cols.length := by omega
      have HS : Hid (∀ u : World, Calls Try.prog 70 #[t.cols[i].v, vs[k].v] u fun e w' => e = .returned (.bool (fitsB t.cols[i] vs[k])) ∧ Below u.heap.size u w') := fun u => fits_impl _ _ u
      have HCI : Hid (colAt t.cols t.keys[k] = (i : Int)) := hci
      clear hpk hci
      cases hq : fitsB t.cols[i] vs[k]
      · have HB : Hid (¬ R) := fun h => by
          obtain ⟨g', h'⟩ := (HR.out.1 h).2.2 k hltk hlt'
          have e := HCI.out
          simp only [e, Int.toNat_natCast, hq] at h'
          cases h'
        rw [hq] at HS
        clear hq
        go_wp2_with fail
        refine region_grown (by kernel_rfl) (by kernel_rfl) ?_
        repeat (go_big_quiet_step (first | (intro hu; go_at_call 70; exact hu.call (HS.out _)) | (intro hu; have n0 := hu.cell l1; have n1 := hu.cell d0; have n2 := hu.cell d1; have n3 := hu.cell d2; have n4 := hu.cell d3; have n5 := hu.cell d4; have n6 := hu.cell d5; have n7 := hu.cell d6; have n8 := hu.cell e0; have n9 := hu.cell e1; have n10 := hu.cell e2; go_simp; (try exact rfl))))
        refine wpQuiet_nil ?_
        intro w3 b3
        have b3 : Below wr.heap.size wr w3 := b3
        all_goals
          go_wp2
          go_ret
          exact ⟨_, rfl, ⟨fun h => by simp at h, fun h => absurd h HB.out⟩, (by repeat (first | with_reducible exact Below.refl _ _ | with_reducible assumption | with_reducible refine ch_alloc ?_ _ | with_reducible refine Below.drew ?_ | with_reducible refine below_draws _ ?_ | (with_reducible refine Below.setCell ?_ ?_ _; rotate_left; focus (first | with_reducible exact Nat.le_refl _ | (simp; done) | (simp; omega) | (simp at *; omega))) | with_reducible refine ch_trans ?_ (by with_reducible assumption)))⟩
      · have HN' : Hid (∀ i (h : i < t.keys.length) (g : i < vs.length), i < k + 1 → ∃ g' : (colAt t.cols t.keys[i]).toNat < t.cols.length, fitsB t.cols[(colAt t.cols t.keys[i]).toNat] vs[i] = true) := fun i' h g hi' => by
          by_cases e : i' = k
          · subst e
            have e := HCI.out
            refine ⟨by rw [e]; simpa using hi, ?_⟩
            simp only [e, Int.toNat_natCast]
            exact hq
          · exact HN.out i' h g (by omega)
        rw [hq] at HS
        clear hq
        go_wp2_with fail
        refine region_grown (by kernel_rfl) (by kernel_rfl) ?_
        repeat (go_big_quiet_step (first | (intro hu; go_at_call 70; exact hu.call (HS.out _)) | (intro hu; have n0 := hu.cell l1; have n1 := hu.cell d0; have n2 := hu.cell d1; have n3 := hu.cell d2; have n4 := hu.cell d3; have n5 := hu.cell d4; have n6 := hu.cell d5; have n7 := hu.cell d6; have n8 := hu.cell e0; have n9 := hu.cell e1; have n10 := hu.cell e2; go_simp; (try exact rfl))))
        refine wpQuiet_nil ?_
        intro w3 b3
        have b3 : Below wr.heap.size wr w3 := b3
        all_goals
          go_wp2
          go_round
          case rel => exact ⟨k + 1, by omega, by go_num, (by repeat (first | with_reducible exact Below.refl _ _ | with_reducible assumption | with_reducible refine ch_alloc ?_ _ | with_reducible refine Below.drew ?_ | with_reducible refine below_draws _ ?_ | (with_reducible refine Below.setCell ?_ ?_ _; rotate_left; focus (first | with_reducible exact Nat.le_refl _ | (simp; done) | (simp; omega) | (simp at *; omega))) | with_reducible refine ch_trans ?_ (by with_reducible assumption))), HN'⟩
          case measure => simp [intOf]; omega
    · have hlti : (t.places.length : Int) ≤ k := by omega
      have HY : Hid R := HR.out.2 ⟨by trivial, HNL.out, fun i h g => HN.out i h g (by have := HPL.out; omega)⟩
      go_wp2
      go_ret
      exact ⟨_, rfl, ⟨fun _ => HY.out, fun _ => rfl⟩, (by repeat (first | with_reducible exact Below.refl _ _ | with_reducible assumption | with_reducible refine ch_alloc ?_ _ | with_reducible refine Below.drew ?_ | with_reducible refine below_draws _ ?_ | (with_reducible refine Below.setCell ?_ ?_ _; rotate_left; focus (first | with_reducible exact Nat.le_refl _ | (simp; done) | (simp; omega) | (simp at *; omega))) | with_reducible refine ch_trans ?_ (by with_reducible assumption)))⟩

set_option maxRecDepth 100000 in
set_option maxHeartbeats 2000000 in
/-- spec.KeyOk -/
theorem keyOk_spec (x : Array Value) (t : Tc) (v : Value) (vs : List Vc) (w : World) (hx : TabV w x t) (hv : ValsV w v vs) (hf : t.fit) :
    Calls Try.prog 52 #[.agg x, v] w fun e w' => ∃ q : Bool, e = .returned (.bool q) ∧ (q = true ↔ keyRight t vs) ∧ Below w.heap.size w w' := by
  obtain ⟨a, p, o, r, rfl, hx, hc, hk⟩ := hx.lit
  obtain ⟨a', p', rfl, hl', hm', hv⟩ := hv.lit
  have hcap : t.cols.length ≤ 9223372036854775807 ∧ t.keys.length ≤ 9223372036854775807 ∧ vs.length ≤ 9223372036854775807 := by
    obtain ⟨_, _, e, h1, h2, _⟩ := hc
    obtain ⟨_, _, e', h1', h2', _⟩ := hk
    unfold maxLen at h2 h2' hm'
    omega
  obtain ⟨hl1, hl2, hl3⟩ := hcap
  clear hl' hm'
  obtain ⟨qs, hqs⟩ := bool_of' t.right
  have HX : Hid (TabV w #[.string t.name, .slice a t.cols.length p, .slice o t.keys.length r] t) := hx
  have HC : Hid (RowAt w a 7 (t.cols.map Cl.cells)) := by
    obtain ⟨_, _, e, _, _, h⟩ := hc
    cases e
    exact h
  have HCC : Hid (ColsV w (.slice a t.cols.length p) t.cols) := hc
  have HK : Hid (RowAt w o 1 (t.keys.map strX)) := by
    obtain ⟨_, _, e, _, _, h⟩ := hk
    cases e
    exact h
  have HV : Hid (RowAt w a' 3 (vs.map Vc.cells)) := hv.row
  have HF : Hid t.fit := hf
  have HQS : Hid (qs = true ↔ t.right) := hqs
  have HA : Hid (∀ u : World, TabV u #[.string t.name, .slice a t.cols.length p, .slice o t.keys.length r] t → Calls Try.prog 29 #[.agg #[.string t.name, .slice a t.cols.length p, .slice o t.keys.length r]] u fun e w' => e = .returned (.bool qs) ∧ Below u.heap.size u w') := fun u hu => (tableOk_spec _ t u hu hf).mono fun e w' ⟨q, h1, h2, h3⟩ => ⟨by rw [h1, Bool.eq_iff_iff.2 (h2.trans hqs.symm)], h3⟩
  have HR : Hid (keyRight t vs ↔ (qs = true ∧ vs.length = t.keys.length ∧ ∀ i (h : i < t.keys.length) (g : i < vs.length), ∃ g' : (colAt t.cols t.keys[i]).toNat < t.cols.length, fitsB t.cols[(colAt t.cols t.keys[i]).toNat] vs[i] = true)) := by show _ ↔ _; rw [hqs]; exact Iff.rfl
  have HL := Loc.new w #[.string t.name, .slice a t.cols.length p, .slice o t.keys.length r] 32
  clear hx hc hk hv hqs hf
  generalize keyRight t vs = R at HR ⊢
  go_enter Try.func52, Try.ntmps52
  go_wp2_with fail
  refine (HA.out _ (HX.out.on (w' := w.alloc (.cells #[.string t.name, .slice a t.cols.length p, .slice o t.keys.length r] 32)) (by repeat (first | with_reducible exact Below.refl _ _ | with_reducible assumption | with_reducible refine ch_alloc ?_ _ | with_reducible refine Below.drew ?_ | with_reducible refine below_draws _ ?_ | (with_reducible refine Below.setCell ?_ ?_ _; rotate_left; focus (first | with_reducible exact Nat.le_refl _ | (simp; done) | (simp; omega) | (simp at *; omega))) | with_reducible refine ch_trans ?_ (by with_reducible assumption))))).mono ?_
  rintro e w1 ⟨rfl, b1⟩
  have HL1 := HL.on (w' := w1) (by repeat (first | with_reducible exact Below.refl _ _ | with_reducible assumption | with_reducible refine ch_alloc ?_ _ | with_reducible refine Below.drew ?_ | with_reducible refine below_draws _ ?_ | (with_reducible refine Below.setCell ?_ ?_ _; rotate_left; focus (first | with_reducible exact Nat.le_refl _ | (simp; done) | (simp; omega) | (simp at *; omega))) | with_reducible refine ch_trans ?_ (by with_reducible assumption)))
  have hb1 : Below w.heap.size w w1 := (by repeat (first | with_reducible exact Below.refl _ _ | with_reducible assumption | with_reducible refine ch_alloc ?_ _ | with_reducible refine Below.drew ?_ | with_reducible refine below_draws _ ?_ | (with_reducible refine Below.setCell ?_ ?_ _; rotate_left; focus (first | with_reducible exact Nat.le_refl _ | (simp; done) | (simp; omega) | (simp at *; omega))) | with_reducible refine ch_trans ?_ (by with_reducible assumption)))
  clear b1
  obtain ⟨f0, f1, f2⟩ := HL1.three
  cases qs
  · have HN : Hid (¬ R) := fun h => by have := HR.out.1 h; simp at this
    go_wp2
    go_ret
    exact ⟨_, rfl, ⟨fun h => by simp at h, fun h => absurd h HN.out⟩, (by repeat (first | with_reducible exact Below.refl _ _ | with_reducible assumption | with_reducible refine ch_alloc ?_ _ | with_reducible refine Below.drew ?_ | with_reducible refine below_draws _ ?_ | (with_reducible refine Below.setCell ?_ ?_ _; rotate_left; focus (first | with_reducible exact Nat.le_refl _ | (simp; done) | (simp; omega) | (simp at *; omega))) | with_reducible refine ch_trans ?_ (by with_reducible assumption)))⟩
  by_cases hn : vs.length = t.keys.length
  case neg =>
    have hn' : ((vs.length : Int) != (t.keys.length : Int)) = true := by simp; omega
    go_wp2
    go_ret
    exact ⟨_, rfl, ⟨fun h => by simp at h, fun h => absurd (HR.out.1 h).2.1 hn⟩, (by repeat (first | with_reducible exact Below.refl _ _ | with_reducible assumption | with_reducible refine ch_alloc ?_ _ | with_reducible refine Below.drew ?_ | with_reducible refine below_draws _ ?_ | (with_reducible refine Below.setCell ?_ ?_ _; rotate_left; focus (first | with_reducible exact Nat.le_refl _ | (simp; done) | (simp; omega) | (simp at *; omega))) | with_reducible refine ch_trans ?_ (by with_reducible assumption)))⟩
  have hn' : ((vs.length : Int) != (t.keys.length : Int)) = false := by simp; omega
  have HNL : Hid (vs.length = t.keys.length) := hn
  clear hn
  go_wp2
  go_loopw [21] (fun i wr => ∃ k : Nat, k ≤ t.keys.length ∧ i = .int .i64 k ∧ Below w1.heap.size w1 wr ∧ Hid (∀ i (h : i < t.keys.length) (g : i < vs.length), i < k → ∃ g' : (colAt t.cols t.keys[i]).toNat < t.cols.length, fitsB t.cols[(colAt t.cols t.keys[i]).toNat] vs[i] = true)) (fun i _ => t.keys.length - (intOf i).toNat)
  case atStart => exact ⟨0, Nat.zero_le _, rfl, Below.refl _ _, fun i h g hi => by omega⟩
  case round =>
    obtain ⟨k, hk, rfl, hb, HN⟩ := hrel
    have hbr : Below w.heap.size w wr := ch_trans hb1 hb
    have HL3 := HL1.on hb
    clear f0 f1 f2
    obtain ⟨l0, l1, l2⟩ := HL3.three
    by_cases hlt : k < t.keys.length
    · have hlti : (k : Int) < t.keys.length := by omega
      have hltk : k < t.keys.length := by omega
      have hlt' : k < vs.length := by have := HNL.out; omega
      have hlti' : (k : Int) < vs.length := by omega
      obtain ⟨b, off, rfl, c0⟩ := (HK.out.on hbr).strs k hlt
      obtain ⟨i, hi, hci⟩ : ∃ i, ∃ hi : i < t.cols.length, colAt t.cols t.keys[k] = (i : Int) := by
        obtain ⟨i, hi, h, _⟩ := right_key (HQS.out.1 (by trivial)) k hltk
        exact ⟨i, hi, h⟩
      obtain ⟨b1, off1, rfl, d0, d1, d2, d3, d4, d5, d6⟩ := (HC.out.on hbr).cols i hi
      have HCA : Hid (∀ u : World, ColsV u (.slice (some ⟨b1, off1, none⟩) t.cols.length p) t.cols → Calls Try.prog 32 #[.agg #[.string t.name, .slice (some ⟨b1, off1, none⟩) t.cols.length p, .slice (some ⟨b, off, none⟩) t.keys.length r], .string t.keys[k]] u fun e w' => e = .returned (.int .i64 i) ∧ Below u.heap.size u w') := fun u hu => by
        have := colAt_spec t.name (.slice (some ⟨b1, off1, none⟩) t.cols.length p) (.slice (some ⟨b, off, none⟩) t.keys.length r) t.cols t.keys[k] u hu
        rw [hci] at this
        exact this
      obtain ⟨b2, off2, rfl, e0, e1, e2⟩ := (HV.out.on hbr).vals k hlt'
      have hii : (i : Int) < t.cols.length := by omega
      have HS : Hid (∀ u : World, Calls Try.prog 67 #[t.cols[i].v, vs[k].v] u fun e w' => e = .returned (.bool (fitsB t.cols[i] vs[k])) ∧ Below u.heap.size u w') := fun u => fits_spec _ _ u
      have HCI : Hid (colAt t.cols t.keys[k] = (i : Int)) := hci
      clear hci
      cases hq : fitsB t.cols[i] vs[k]
      · have HB : Hid (¬ R) := fun h => by
          obtain ⟨g', h'⟩ := (HR.out.1 h).2.2 k hltk hlt'
          have e := HCI.out
          simp only [e, Int.toNat_natCast, hq] at h'
          cases h'
        rw [hq] at HS
        clear hq
        go_wp2_with fail
        refine region_grown (by kernel_rfl) (by kernel_rfl) ?_
        repeat (go_big_quiet_step (first | (intro hu; go_at_call 67; exact hu.call (HS.out _)) | (intro hu; go_at_call 32; exact hu.call (HCA.out _ (HCC.out.on (ch_trans hbr hu)))) | (intro hu; have n0 := hu.cell l1; have n11 := hu.cell l0; have n12 := hu.cell l2; have n1 := hu.cell d0; have n2 := hu.cell d1; have n3 := hu.cell d2; have n4 := hu.cell d3; have n5 := hu.cell d4; have n6 := hu.cell d5; have n7 := hu.cell d6; have n8 := hu.cell e0; have n9 := hu.cell e1; have n10 := hu.cell e2; go_simp; (try exact rfl))))
        refine wpQuiet_nil ?_
        intro w3 b3
        have b3 : Below wr.heap.size wr w3 := b3
        all_goals
          go_wp2
          go_ret
          exact ⟨_, rfl, ⟨fun h => by simp at h, fun h => absurd h HB.out⟩, (by repeat (first | with_reducible exact Below.refl _ _ | with_reducible assumption | with_reducible refine ch_alloc ?_ _ | with_reducible refine Below.drew ?_ | with_reducible refine below_draws _ ?_ | (with_reducible refine Below.setCell ?_ ?_ _; rotate_left; focus (first | with_reducible exact Nat.le_refl _ | (simp; done) | (simp; omega) | (simp at *; omega))) | with_reducible refine ch_trans ?_ (by with_reducible assumption)))⟩
      · have HN' : Hid (∀ i (h : i < t.keys.length) (g : i < vs.length), i < k + 1 → ∃ g' : (colAt t.cols t.keys[i]).toNat < t.cols.length, fitsB t.cols[(colAt t.cols t.keys[i]).toNat] vs[i] = true) := fun i' h g hi' => by
          by_cases e : i' = k
          · subst e
            have e := HCI.out
            refine ⟨by rw [e]; simpa using hi, ?_⟩
            simp only [e, Int.toNat_natCast]
            exact hq
          · exact HN.out i' h g (by omega)
        rw [hq] at HS
        clear hq
        go_wp2_with fail
        refine region_grown (by kernel_rfl) (by kernel_rfl) ?_
        repeat (go_big_quiet_step (first | (intro hu; go_at_call 67; exact hu.call (HS.out _)) | (intro hu; go_at_call 32; exact hu.call (HCA.out _ (HCC.out.on (ch_trans hbr hu)))) | (intro hu; have n0 := hu.cell l1; have n11 := hu.cell l0; have n12 := hu.cell l2; have n1 := hu.cell d0; have n2 := hu.cell d1; have n3 := hu.cell d2; have n4 := hu.cell d3; have n5 := hu.cell d4; have n6 := hu.cell d5; have n7 := hu.cell d6; have n8 := hu.cell e0; have n9 := hu.cell e1; have n10 := hu.cell e2; go_simp; (try exact rfl))))
        refine wpQuiet_nil ?_
        intro w3 b3
        have b3 : Below wr.heap.size wr w3 := b3
        all_goals
          go_wp2
          go_round
          case rel => exact ⟨k + 1, by omega, by go_num, (by repeat (first | with_reducible exact Below.refl _ _ | with_reducible assumption | with_reducible refine ch_alloc ?_ _ | with_reducible refine Below.drew ?_ | with_reducible refine below_draws _ ?_ | (with_reducible refine Below.setCell ?_ ?_ _; rotate_left; focus (first | with_reducible exact Nat.le_refl _ | (simp; done) | (simp; omega) | (simp at *; omega))) | with_reducible refine ch_trans ?_ (by with_reducible assumption))), HN'⟩
          case measure => simp [intOf]; omega
    · have hlti : (t.keys.length : Int) ≤ k := by omega
      have HY : Hid R := HR.out.2 ⟨by trivial, HNL.out, fun i h g => HN.out i h g (by omega)⟩
      go_wp2
      go_ret
      exact ⟨_, rfl, ⟨fun _ => HY.out, fun _ => rfl⟩, (by repeat (first | with_reducible exact Below.refl _ _ | with_reducible assumption | with_reducible refine ch_alloc ?_ _ | with_reducible refine Below.drew ?_ | with_reducible refine below_draws _ ?_ | (with_reducible refine Below.setCell ?_ ?_ _; rotate_left; focus (first | with_reducible exact Nat.le_refl _ | (simp; done) | (simp; omega) | (simp at *; omega))) | with_reducible refine ch_trans ?_ (by with_reducible assumption)))⟩
end Go.Proofs.Ytiijahoheajppaa
