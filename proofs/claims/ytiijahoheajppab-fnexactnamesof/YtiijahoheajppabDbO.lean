/- Whether a store is right, given and landed. -/
import Derived.Test.YtiijahoheajppabDb
import Derived.Test.YtiijahoheajppabRoS
namespace Go.Proofs.Ytiijahoheajppab
open Go.ChangeShapes Go.WideShapes Go.ChangeAt Go.RowKit

/-- A store is right. -/
def dbRight (ts : List Tc) (ds : List (List (List Vc))) : Prop := catRight ts ∧ ds.length = ts.length ∧ ∀ i (h : i < ts.length) (g : i < ds.length), rowsGood ts[i] ds[i]

set_option maxRecDepth 100000 in
set_option maxHeartbeats 4000000 in
/-- spec.DbOk -/
theorem dbOk_spec (cv dv : Value) (ts : List Tc) (ds : List (List (List Vc))) (w : World) (hc : TabsV w cv ts) (hd : DataV w dv ds) (hf : fits ts) :
    Calls Try.prog 22 #[.agg #[cv, dv]] w fun e w' => ∃ q : Bool, e = .returned (.bool q) ∧ (q = true ↔ dbRight ts ds) ∧ Below w.heap.size w w' := by
  obtain ⟨a, p, rfl, hl, hm⟩ := hc.lit
  obtain ⟨a', p', rfl, hl', hm', _⟩ := hd.lit
  unfold maxLen at hm hm'
  obtain ⟨qs, hqs⟩ := bool_of (catRight ts)
  have HC : Hid (TabsV w (.slice a ts.length p) ts) := hc
  have HD : Hid (DataV w (.slice a' ds.length p') ds) := hd
  have HF : Hid (fits ts) := hf
  have HQS : Hid (qs = true ↔ catRight ts) := hqs
  have HT : Hid (∀ u : World, Below w.heap.size w u → Calls Try.prog 44 #[.agg #[.slice a ts.length p]] u fun e w' => e = .returned (.bool qs) ∧ Below u.heap.size u w') := fun u hu => (catOk_spec _ ts u (hc.on hu) hf).mono fun e w' ⟨q, h1, h2, h3⟩ => ⟨by rw [h1, Bool.eq_iff_iff.2 (h2.trans hqs.symm)], h3⟩
  have HL := Loc.new w #[.slice a ts.length p, .slice a' ds.length p'] 37
  have hbv : Below w.heap.size w (w.alloc (.cells #[.slice a ts.length p, .slice a' ds.length p'] 37)) := (by repeat (first | with_reducible exact Below.refl _ _ | with_reducible assumption | with_reducible refine ch_alloc ?_ _ | with_reducible refine Below.drew ?_ | with_reducible refine below_draws _ ?_ | (with_reducible refine Below.setCell ?_ ?_ _; rotate_left; focus (first | with_reducible exact Nat.le_refl _ | (simp; done) | (simp; omega) | (simp at *; omega))) | with_reducible refine ch_trans ?_ (by with_reducible assumption)))
  clear hc hd hf hqs
  obtain ⟨l0, l1⟩ := HL.two
  have hlen : (∃ h : ds.length = ts.length, ((ds.length : Int) == ts.length) = true) ∨ (∃ h : ds.length ≠ ts.length, ((ds.length : Int) == ts.length) = false) := by
    by_cases h : ds.length = ts.length
    · exact Or.inl ⟨h, by simp [h]⟩
    · exact Or.inr ⟨h, beq_eq_false_iff_ne.2 (by omega)⟩
  go_enter Try.func22, Try.ntmps22
  go_wp2_with fail
  refine (HT.out _ hbv).mono ?_
  rintro e w2 ⟨rfl, b2⟩
  have HL2 := HL.on b2
  have hb2 : Below w.heap.size w w2 := ch_trans hbv b2
  clear b2 HL l0 l1 hbv HT
  obtain ⟨l0, l1⟩ := HL2.two
  cases qs
  · have HB : Hid (¬ dbRight ts ds) := fun h => by have := HQS.out.2 h.1; cases this
    clear HQS hlen
    go_wp2
    go_ret
    exact ⟨_, rfl, ⟨fun h => by simp at h, fun h => absurd h HB.out⟩, hb2⟩
  have HCR : Hid (catRight ts) := HQS.out.1 (by trivial)
  clear HQS
  rcases hlen with ⟨hln, hle⟩ | ⟨hln, hle⟩
  rotate_left
  · have HB : Hid (¬ dbRight ts ds) := fun h => hln h.2.1
    clear hln
    go_wp2
    go_ret
    exact ⟨_, rfl, ⟨fun h => by simp at h, fun h => absurd h HB.out⟩, hb2⟩
  have HLN : Hid (ds.length = ts.length) := hln
  clear hln
  go_wp2
  go_loopw [23] (fun i wr => ∃ k : Nat, k ≤ ts.length ∧ i = .int .i64 k ∧ Below w2.heap.size w2 wr ∧ Hid (∀ i (h : i < ts.length) (g : i < ds.length), i < k → rowsGood ts[i] ds[i])) (fun i _ => ts.length - (intOf i).toNat)
  case atStart => exact ⟨0, Nat.zero_le _, rfl, Below.refl _ _, fun i h g hi => by omega⟩
  case round =>
    obtain ⟨k, hk, rfl, hb, HN⟩ := hrel
    have hbw : Below w.heap.size w wr := ch_trans hb2 hb
    have HL3 := HL2.on hb
    clear l0 l1
    by_cases hlt : k < ts.length
    · have hlti : (k : Int) < ts.length := by omega
      have hltd : k < ds.length := by have := HLN.out; omega
      have hltdi : (k : Int) < ds.length := by omega
      obtain ⟨b, off, c1, p1, c2, p2, rfl, d0, d1, d2, hx⟩ := (HC.out.on hbw).tab k hlt
      obtain ⟨b', off', c3, p3, rfl, f0, hr⟩ := (HD.out.on hbw).rw k hltd
      obtain ⟨qf, hqf⟩ := bool_of (rowsGood ts[k] ds[k])
      have hbv : Below wr.heap.size wr (wr.alloc (.cells #[.string ts[k].name, .slice c1 ts[k].cols.length p1, .slice c2 ts[k].keys.length p2] 47)) := ch_alloc (Below.refl _ _) _
      obtain ⟨m0, m1, m2⟩ := (Loc.new wr #[.string ts[k].name, .slice c1 ts[k].cols.length p1, .slice c2 ts[k].keys.length p2] 47).three
      obtain ⟨l0, l1⟩ := (HL3.on hbv).two
      have g0 := cell_on f0 hbv
      have HS : Hid (∀ u : World, Below wr.heap.size wr u → Calls Try.prog 46 #[.agg #[.string ts[k].name, .slice c1 ts[k].cols.length p1, .slice c2 ts[k].keys.length p2], .slice c3 ds[k].length p3] u fun e w' => e = .returned (.bool qf) ∧ Below u.heap.size u w') := fun u hu => (rowsOk_spec _ ts[k] _ ds[k] u (hx.on hu) (hr.on hu) (HF.out _ (List.getElem_mem hlt))).mono fun e w' ⟨q, h1, h2, h3⟩ => ⟨by rw [h1, Bool.eq_iff_iff.2 ((h2.trans ⟨fun h => h.2, fun h => ⟨HCR.out.2.1 k hlt, h⟩⟩).trans hqf.symm)], h3⟩
      clear hx hr f0 HL3
      cases qf
      · have HB : Hid (¬ dbRight ts ds) := fun h => by have := hqf.2 (h.2.2 k hlt hltd); cases this
        clear hqf
        go_wp2_with fail
        generalize wr.alloc (.cells #[.string ts[k].name, .slice c1 ts[k].cols.length p1, .slice c2 ts[k].keys.length p2] 47) = wv at l0 l1 m0 m1 m2 g0 hbv ⊢
        refine region_grown (by kernel_rfl) (by kernel_rfl) ?_
        repeat (go_big_quiet_step (first | (intro hu; go_at_call 46; exact hu.call (HS.out _ (ch_trans hbv hu))) | (intro hu; have n0 := hu.cell l0; have n1 := hu.cell l1; have n2 := hu.cell m0; have n3 := hu.cell m1; have n4 := hu.cell m2; have n5 := hu.cell g0; go_simp; (try exact rfl))))
        refine wpQuiet_nil ?_
        intro w4 b4
        have b4 : Below wv.heap.size wv w4 := b4
        go_wp2
        go_ret
        exact ⟨_, rfl, ⟨fun h => by simp at h, fun h => absurd h HB.out⟩, ch_trans (ch_trans hbw hbv) b4⟩
      · have HN' : Hid (∀ i (h : i < ts.length) (g : i < ds.length), i < k + 1 → rowsGood ts[i] ds[i]) := fun i h g hi => by
          by_cases e : i = k
          · subst e; exact hqf.1 rfl
          · exact HN.out i h g (by omega)
        clear hqf
        go_wp2_with fail
        generalize wr.alloc (.cells #[.string ts[k].name, .slice c1 ts[k].cols.length p1, .slice c2 ts[k].keys.length p2] 47) = wv at l0 l1 m0 m1 m2 g0 hbv ⊢
        refine region_grown (by kernel_rfl) (by kernel_rfl) ?_
        repeat (go_big_quiet_step (first | (intro hu; go_at_call 46; exact hu.call (HS.out _ (ch_trans hbv hu))) | (intro hu; have n0 := hu.cell l0; have n1 := hu.cell l1; have n2 := hu.cell m0; have n3 := hu.cell m1; have n4 := hu.cell m2; have n5 := hu.cell g0; go_simp; (try exact rfl))))
        refine wpQuiet_nil ?_
        intro w4 b4
        have b4 : Below wv.heap.size wv w4 := b4
        go_wp2
        go_round
        case rel => exact ⟨k + 1, by omega, by go_num, ch_trans (ch_trans hb hbv) b4, HN'⟩
        case measure => simp [intOf]; omega
    · have hlti : (ts.length : Int) ≤ k := by omega
      have HY : Hid (dbRight ts ds) := ⟨HCR.out, HLN.out, fun i h g => HN.out i h g (by omega)⟩
      go_wp2
      go_ret
      exact ⟨_, rfl, ⟨fun _ => HY.out, fun _ => rfl⟩, hbw⟩

set_option maxRecDepth 100000 in
set_option maxHeartbeats 4000000 in
/-- impl.DbOk -/
theorem dbOk_impl (cv dv : Value) (ts : List Tc) (ds : List (List (List Vc))) (w : World) (hc : TabsV w cv ts) (hd : DataV w dv ds) (hf : fits ts) :
    Calls Try.prog 25 #[.agg #[cv, dv]] w fun e w' => ∃ q : Bool, e = .returned (.bool q) ∧ (q = true ↔ dbRight ts ds) ∧ Below w.heap.size w w' := by
  obtain ⟨a, p, rfl, hl, hm⟩ := hc.lit
  obtain ⟨a', p', rfl, hl', hm', _⟩ := hd.lit
  unfold maxLen at hm hm'
  obtain ⟨qs, hqs⟩ := bool_of (catRight ts)
  have HC : Hid (TabsV w (.slice a ts.length p) ts) := hc
  have HD : Hid (DataV w (.slice a' ds.length p') ds) := hd
  have HF : Hid (fits ts) := hf
  have HQS : Hid (qs = true ↔ catRight ts) := hqs
  have HT : Hid (∀ u : World, Below w.heap.size w u → Calls Try.prog 49 #[.agg #[.slice a ts.length p]] u fun e w' => e = .returned (.bool qs) ∧ Below u.heap.size u w') := fun u hu => (catOk_impl _ ts u (hc.on hu) hf).mono fun e w' ⟨q, h1, h2, h3⟩ => ⟨by rw [h1, Bool.eq_iff_iff.2 (h2.trans hqs.symm)], h3⟩
  have HL := Loc.new w #[.slice a ts.length p, .slice a' ds.length p'] 37
  have hbv : Below w.heap.size w (w.alloc (.cells #[.slice a ts.length p, .slice a' ds.length p'] 37)) := (by repeat (first | with_reducible exact Below.refl _ _ | with_reducible assumption | with_reducible refine ch_alloc ?_ _ | with_reducible refine Below.drew ?_ | with_reducible refine below_draws _ ?_ | (with_reducible refine Below.setCell ?_ ?_ _; rotate_left; focus (first | with_reducible exact Nat.le_refl _ | (simp; done) | (simp; omega) | (simp at *; omega))) | with_reducible refine ch_trans ?_ (by with_reducible assumption)))
  clear hc hd hf hqs
  obtain ⟨l0, l1⟩ := HL.two
  have hlen : (∃ h : ds.length = ts.length, ((ds.length : Int) == ts.length) = true) ∨ (∃ h : ds.length ≠ ts.length, ((ds.length : Int) == ts.length) = false) := by
    by_cases h : ds.length = ts.length
    · exact Or.inl ⟨h, by simp [h]⟩
    · exact Or.inr ⟨h, beq_eq_false_iff_ne.2 (by omega)⟩
  go_enter Try.func25, Try.ntmps25
  go_wp2_with fail
  refine (HT.out _ hbv).mono ?_
  rintro e w2 ⟨rfl, b2⟩
  have HL2 := HL.on b2
  have hb2 : Below w.heap.size w w2 := ch_trans hbv b2
  clear b2 HL l0 l1 hbv HT
  obtain ⟨l0, l1⟩ := HL2.two
  cases qs
  · have HB : Hid (¬ dbRight ts ds) := fun h => by have := HQS.out.2 h.1; cases this
    clear HQS hlen
    go_wp2
    go_ret
    exact ⟨_, rfl, ⟨fun h => by simp at h, fun h => absurd h HB.out⟩, hb2⟩
  have HCR : Hid (catRight ts) := HQS.out.1 (by trivial)
  clear HQS
  rcases hlen with ⟨hln, hle⟩ | ⟨hln, hle⟩
  rotate_left
  · have HB : Hid (¬ dbRight ts ds) := fun h => hln h.2.1
    clear hln
    go_wp2
    go_ret
    exact ⟨_, rfl, ⟨fun h => by simp at h, fun h => absurd h HB.out⟩, hb2⟩
  have HLN : Hid (ds.length = ts.length) := hln
  clear hln
  go_wp2
  go_loopw [23] (fun i wr => ∃ k : Nat, k ≤ ts.length ∧ i = .int .i64 k ∧ Below w2.heap.size w2 wr ∧ Hid (∀ i (h : i < ts.length) (g : i < ds.length), i < k → rowsGood ts[i] ds[i])) (fun i _ => ts.length - (intOf i).toNat)
  case atStart => exact ⟨0, Nat.zero_le _, rfl, Below.refl _ _, fun i h g hi => by omega⟩
  case round =>
    obtain ⟨k, hk, rfl, hb, HN⟩ := hrel
    have hbw : Below w.heap.size w wr := ch_trans hb2 hb
    have HL3 := HL2.on hb
    clear l0 l1
    by_cases hlt : k < ts.length
    · have hlti : (k : Int) < ts.length := by omega
      have hltd : k < ds.length := by have := HLN.out; omega
      have hltdi : (k : Int) < ds.length := by omega
      obtain ⟨b, off, c1, p1, c2, p2, rfl, d0, d1, d2, hx⟩ := (HC.out.on hbw).tab k hlt
      obtain ⟨b', off', c3, p3, rfl, f0, hr⟩ := (HD.out.on hbw).rw k hltd
      obtain ⟨qf, hqf⟩ := bool_of (rowsGood ts[k] ds[k])
      have hbv : Below wr.heap.size wr (wr.alloc (.cells #[.string ts[k].name, .slice c1 ts[k].cols.length p1, .slice c2 ts[k].keys.length p2] 47)) := ch_alloc (Below.refl _ _) _
      obtain ⟨m0, m1, m2⟩ := (Loc.new wr #[.string ts[k].name, .slice c1 ts[k].cols.length p1, .slice c2 ts[k].keys.length p2] 47).three
      obtain ⟨l0, l1⟩ := (HL3.on hbv).two
      have g0 := cell_on f0 hbv
      have HS : Hid (∀ u : World, Below wr.heap.size wr u → Calls Try.prog 50 #[.agg #[.string ts[k].name, .slice c1 ts[k].cols.length p1, .slice c2 ts[k].keys.length p2], .slice c3 ds[k].length p3] u fun e w' => e = .returned (.bool qf) ∧ Below u.heap.size u w') := fun u hu => (rowsFit_impl _ ts[k] _ ds[k] u (hx.on hu) (hr.on hu) (HF.out _ (List.getElem_mem hlt)) (HCR.out.2.1 k hlt)).mono fun e w' ⟨q, h1, h2, h3⟩ => ⟨by rw [h1, Bool.eq_iff_iff.2 (h2.trans hqf.symm)], h3⟩
      clear hx hr f0 HL3
      cases qf
      · have HB : Hid (¬ dbRight ts ds) := fun h => by have := hqf.2 (h.2.2 k hlt hltd); cases this
        clear hqf
        go_wp2_with fail
        generalize wr.alloc (.cells #[.string ts[k].name, .slice c1 ts[k].cols.length p1, .slice c2 ts[k].keys.length p2] 47) = wv at l0 l1 m0 m1 m2 g0 hbv ⊢
        refine region_grown (by kernel_rfl) (by kernel_rfl) ?_
        repeat (go_big_quiet_step (first | (intro hu; go_at_call 50; exact hu.call (HS.out _ (ch_trans hbv hu))) | (intro hu; have n0 := hu.cell l0; have n1 := hu.cell l1; have n2 := hu.cell m0; have n3 := hu.cell m1; have n4 := hu.cell m2; have n5 := hu.cell g0; go_simp; (try exact rfl))))
        refine wpQuiet_nil ?_
        intro w4 b4
        have b4 : Below wv.heap.size wv w4 := b4
        go_wp2
        go_ret
        exact ⟨_, rfl, ⟨fun h => by simp at h, fun h => absurd h HB.out⟩, ch_trans (ch_trans hbw hbv) b4⟩
      · have HN' : Hid (∀ i (h : i < ts.length) (g : i < ds.length), i < k + 1 → rowsGood ts[i] ds[i]) := fun i h g hi => by
          by_cases e : i = k
          · subst e; exact hqf.1 rfl
          · exact HN.out i h g (by omega)
        clear hqf
        go_wp2_with fail
        generalize wr.alloc (.cells #[.string ts[k].name, .slice c1 ts[k].cols.length p1, .slice c2 ts[k].keys.length p2] 47) = wv at l0 l1 m0 m1 m2 g0 hbv ⊢
        refine region_grown (by kernel_rfl) (by kernel_rfl) ?_
        repeat (go_big_quiet_step (first | (intro hu; go_at_call 50; exact hu.call (HS.out _ (ch_trans hbv hu))) | (intro hu; have n0 := hu.cell l0; have n1 := hu.cell l1; have n2 := hu.cell m0; have n3 := hu.cell m1; have n4 := hu.cell m2; have n5 := hu.cell g0; go_simp; (try exact rfl))))
        refine wpQuiet_nil ?_
        intro w4 b4
        have b4 : Below wv.heap.size wv w4 := b4
        go_wp2
        go_round
        case rel => exact ⟨k + 1, by omega, by go_num, ch_trans (ch_trans hb hbv) b4, HN'⟩
        case measure => simp [intOf]; omega
    · have hlti : (ts.length : Int) ≤ k := by omega
      have HY : Hid (dbRight ts ds) := ⟨HCR.out, HLN.out, fun i h g => HN.out i h g (by omega)⟩
      go_wp2
      go_ret
      exact ⟨_, rfl, ⟨fun _ => HY.out, fun _ => rfl⟩, hbw⟩

end Go.Proofs.Ytiijahoheajppab
