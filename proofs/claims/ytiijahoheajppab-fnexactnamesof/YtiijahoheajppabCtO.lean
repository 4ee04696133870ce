/- Catalogs: the laws' copy; whether a catalog is right, given and landed. -/
import Derived.Test.YtiijahoheajppabCt
import Derived.Test.YtiijahoheajppabTbOkI
import Derived.Test.YtiijahoheajppabGr
namespace Go.Proofs.Ytiijahoheajppab
open Go.ChangeShapes Go.WideShapes Go.ChangeAt Go.RowKit

set_option maxRecDepth 100000 in
set_option maxHeartbeats 1000000 in
/-- laws.toCat -/
theorem toCat_any (v : Value) (ts : List Tc) (w : World) (hx : TabsV w v ts) (hf : fews ts) :
    Calls Try.prog 23 #[.agg #[v]] w fun e w' => ∃ y, e = .returned (.agg #[y]) ∧ Below w.heap.size w w' ∧ TabsN w' y ts w.heap.size := by
  obtain ⟨a, cap, rfl, hl, hm⟩ := hx.lit
  have HX : Hid (TabsV w (.slice a ts.length cap) ts) := hx
  clear hx
  go_enter Try.func23, Try.ntmps23
  go_wp2_with fail
  refine (toTableS_any _ ts _ (HX.out.on (by repeat (first | with_reducible exact Below.refl _ _ | with_reducible assumption | with_reducible refine ch_alloc ?_ _ | with_reducible refine Below.drew ?_ | with_reducible refine below_draws _ ?_ | (with_reducible refine Below.setCell ?_ ?_ _; rotate_left; focus (first | with_reducible exact Nat.le_refl _ | (simp; done) | (simp; omega) | (simp at *; omega))) | with_reducible refine ch_trans ?_ (by with_reducible assumption)))) hf).mono ?_
  rintro e w1 ⟨y, rfl, b1, hy⟩
  obtain ⟨a1, p1, rfl, _, _⟩ := hy.1.lit
  have HY : Hid (TabsN w1 (.slice a1 ts.length p1) ts (w.heap.size + 1 + 1 + 1)) := by show TabsN _ _ _ _; simpa using hy
  have HO : Own w1 (w.heap.size + 1 + 1) 34 #[.slice none 0 0] := (Own.at ((w.alloc (.cells #[.slice a ts.length cap] 24)).alloc (.cells #[.slice none 0 0] 34)) _ _ (by simp)).on b1
  have HQ : Own w1 (w.heap.size + 1) 34 #[.slice none 0 0] := ((Own.at (w.alloc (.cells #[.slice a ts.length cap] 24)) _ _ (by simp)).on (ch_alloc (Below.refl _ _) _)).on b1
  clear hy
  have d0 := HO.loc.one
  have f0 := HO.frozen 0
  have g0 := HQ.loc.one
  have i0 := HQ.frozen 0
  go_wp2
  have HB : Hid (Below w.heap.size w ((w1.setCell ⟨w.heap.size + 1 + 1, 0, none⟩ (.slice a1 ts.length p1)).setCell ⟨w.heap.size + 1, 0, none⟩ (.slice a1 ts.length p1))) := by
    show Below _ _ _
    exact (by repeat (first | with_reducible exact Below.refl _ _ | with_reducible assumption | with_reducible refine ch_alloc ?_ _ | with_reducible refine Below.drew ?_ | with_reducible refine below_draws _ ?_ | (with_reducible refine Below.setCell ?_ ?_ _; rotate_left; focus (first | with_reducible exact Nat.le_refl _ | (simp; done) | (simp; omega) | (simp at *; omega))) | with_reducible refine ch_trans ?_ (by with_reducible assumption)))
  have HQ3 : Own ((w1.setCell ⟨w.heap.size + 1 + 1, 0, none⟩ (.slice a1 ts.length p1)).setCell ⟨w.heap.size + 1, 0, none⟩ (.slice a1 ts.length p1)) _ _ #[.slice a1 ts.length p1] := (HQ.other (p := ⟨w.heap.size + 1 + 1, 0, none⟩) (by simp) (.slice a1 ts.length p1)).set 0 (.slice a1 ts.length p1)
  have HY3 : Hid (TabsN ((w1.setCell ⟨w.heap.size + 1 + 1, 0, none⟩ (.slice a1 ts.length p1)).setCell ⟨w.heap.size + 1, 0, none⟩ (.slice a1 ts.length p1)) (.slice a1 ts.length p1) ts (w.heap.size + 1 + 1 + 1)) := (HY.out.set (by simp) _).set (by simp) _
  generalize ((w1.setCell ⟨w.heap.size + 1 + 1, 0, none⟩ (.slice a1 ts.length p1)).setCell ⟨w.heap.size + 1, 0, none⟩ (.slice a1 ts.length p1)) = W at HQ3 HB HY3 ⊢
  have e0 := HQ3.loc.one
  exact bodyPost_ret (v := .agg #[.slice a1 ts.length p1]) (by simp [results, Try.results23, go_sem, e0]) rfl ⟨_, rfl, HB.out, HY3.out.mono (by omega)⟩

/-- Texts in their order. -/
def lessB' (a b : ByteArray) : Bool := Op.bytesLess a.toList b.toList
/-- A catalog is right. -/
def catRight (ts : List Tc) : Prop := ts.length ≤ 6 ∧ (∀ i (h : i < ts.length), ts[i].right) ∧ ∀ i (h : i + 1 < ts.length), lessB' ts[i].name ts[i + 1].name = true

set_option maxRecDepth 100000 in
set_option maxHeartbeats 4000000 in
/-- spec.CatOk -/
theorem catOk_spec (v : Value) (ts : List Tc) (w : World) (hx : TabsV w v ts) (hf : fits ts) :
    Calls Try.prog 44 #[.agg #[v]] w fun e w' => ∃ q : Bool, e = .returned (.bool q) ∧ (q = true ↔ catRight ts) ∧ Below w.heap.size w w' := by
  obtain ⟨a, cap, rfl, hl, hm⟩ := hx.lit
  unfold maxLen at hm
  have HX : Hid (TabsV w (.slice a ts.length cap) ts) := hx
  have HF : Hid (fits ts) := hf
  have HL := Loc.new w #[.slice a ts.length cap] 34
  clear hx hf
  by_cases h6 : 6 < ts.length
  · have e6 : decide ((6 : Int) < ts.length) = true := by simp; omega
    go_enter Try.func44, Try.ntmps44
    go_wp2
    go_ret
    exact ⟨_, rfl, ⟨fun h => by simp at h, fun h => by have := h.1; omega⟩, (by repeat (first | with_reducible exact Below.refl _ _ | with_reducible assumption | with_reducible refine ch_alloc ?_ _ | with_reducible refine Below.drew ?_ | with_reducible refine below_draws _ ?_ | (with_reducible refine Below.setCell ?_ ?_ _; rotate_left; focus (first | with_reducible exact Nat.le_refl _ | (simp; done) | (simp; omega) | (simp at *; omega))) | with_reducible refine ch_trans ?_ (by with_reducible assumption)))⟩
  have e6 : decide ((6 : Int) < ts.length) = false := by simp; omega
  go_enter Try.func44, Try.ntmps44
  go_wp2
  go_loopw [12] (fun i wr => ∃ k : Nat, k ≤ ts.length ∧ i = .int .i64 k ∧ Below (w.heap.size + 1) (w.alloc (.cells #[.slice a ts.length cap] 34)) wr ∧ Hid (∀ i (h : i < ts.length), i < k → ts[i].right ∧ ∀ j (g : j < ts.length), i = j + 1 → lessB' ts[j].name ts[i].name = true)) (fun i _ => ts.length - (intOf i).toNat)
  case atStart => exact ⟨0, Nat.zero_le _, rfl, Below.refl _ _, fun i h hi => by omega⟩
  case round =>
    obtain ⟨k, hk, rfl, hb0, HN⟩ := hrel
    have hb1 : Below (w.alloc (.cells #[.slice a ts.length cap] 34)).heap.size (w.alloc (.cells #[.slice a ts.length cap] 34)) wr := by simpa using hb0
    have hb : Below w.heap.size w wr := ch_trans (ch_alloc (Below.refl _ _) _) hb1
    have HL1 := HL.on hb1
    have l0 := HL1.one
    by_cases hlt : k < ts.length
    · have hlti : (k : Int) < ts.length := by omega
      obtain ⟨b, off, c1, p1, c2, p2, rfl, d0, d1, d2, hx⟩ := (HX.out.on hb).tab k hlt
      have HY : Hid (TabV wr #[.string ts[k].name, .slice c1 ts[k].cols.length p1, .slice c2 ts[k].keys.length p2] ts[k]) := hx
      have HM := Loc.new wr #[.string ts[k].name, .slice c1 ts[k].cols.length p1, .slice c2 ts[k].keys.length p2] 47
      clear hx
      by_cases hr : ts[k].right
      · have HS : Hid (∀ u : World, TabV u #[.string ts[k].name, .slice c1 ts[k].cols.length p1, .slice c2 ts[k].keys.length p2] ts[k] → Calls Try.prog 70 #[.agg #[.string ts[k].name, .slice c1 ts[k].cols.length p1, .slice c2 ts[k].keys.length p2]] u fun e w' => e = .returned (.bool true) ∧ Below u.heap.size u w') := fun u hu => (tableOk_spec _ ts[k] u hu (HF.out _ (List.getElem_mem hlt))).mono fun e w' ⟨q, h1, h2, h3⟩ => ⟨by rw [h1, h2.2 hr], h3⟩
        have HQ : Hid ts[k].right := hr
        clear hr
        by_cases hk0 : k = 0
        · subst hk0
          simp only [Nat.zero_mul, Nat.add_zero] at d0 d1 d2
          have HN' : Hid (∀ i (h : i < ts.length), i < 0 + 1 → ts[i].right ∧ ∀ j (g : j < ts.length), i = j + 1 → lessB' ts[j].name ts[i].name = true) := fun i h hi => by
            obtain rfl : i = 0 := by omega
            exact ⟨HQ.out, fun j g e => by omega⟩
          go_wp2_with fail
          obtain ⟨m0, m1, m2⟩ := HM.three
          have l0' := (HL1.on1 (.cells #[.string ts[0].name, .slice c1 ts[0].cols.length p1, .slice c2 ts[0].keys.length p2] 47)).one
          refine region_grown (by kernel_rfl) (by kernel_rfl) ?_
          repeat (go_big_quiet_step (first | (intro hu; go_at_call 70; exact hu.call (HS.out _ (HY.out.on (ch_trans (ch_alloc (Below.refl _ _) _) hu)))) | (intro hu; have n0 := hu.cell m0; have n1 := hu.cell m1; have n2 := hu.cell m2; have n3 := hu.cell l0'; go_simp; (try exact rfl))))
          refine wpQuiet_nil ?_
          intro w1 b1
          have b1 : Below (wr.alloc (.cells #[.string ts[0].name, .slice c1 ts[0].cols.length p1, .slice c2 ts[0].keys.length p2] 47)).heap.size (wr.alloc (.cells #[.string ts[0].name, .slice c1 ts[0].cols.length p1, .slice c2 ts[0].keys.length p2] 47)) w1 := b1
          go_wp2
          go_round
          case rel => exact ⟨0 + 1, by omega, by go_num, by
            have : Below (w.alloc (.cells #[.slice (some ⟨b, off, none⟩) ts.length cap] 34)).heap.size (w.alloc (.cells #[.slice (some ⟨b, off, none⟩) ts.length cap] 34)) w1 := (by repeat (first | with_reducible exact Below.refl _ _ | with_reducible assumption | with_reducible refine ch_alloc ?_ _ | with_reducible refine Below.drew ?_ | with_reducible refine below_draws _ ?_ | (with_reducible refine Below.setCell ?_ ?_ _; rotate_left; focus (first | with_reducible exact Nat.le_refl _ | (simp; done) | (simp; omega) | (simp at *; omega))) | with_reducible refine ch_trans ?_ (by with_reducible assumption)))
            simpa using this, HN'⟩
          case measure => simp [intOf]; omega
        · obtain ⟨j, hj⟩ : ∃ j, k = j + 1 := ⟨k - 1, by omega⟩
          have hjl : j < ts.length := by omega
          have hjli : (j : Int) < ts.length := by omega
          obtain ⟨b', off', c1', p1', c2', p2', e', d0', d1', d2', hx'⟩ := (HX.out.on hb).tab j hjl
          cases e'
          clear hx' d1' d2'
          have e0 : decide ((0 : Int) < (k : Int)) = true := by simp; omega
          have e0n : decide (0 < k) = true := by simp; omega
          have hj0 : (0 : Int) ≤ (j : Int) := by omega
          have hwr : IntKind.i64.wrap ((k : Int) - 1) = (j : Int) := by rw [IntKind.wrap_i64]; omega
          cases hle : lessB' ts[j].name ts[k].name
          · have HB : Hid (¬ catRight ts) := fun h => by subst hj; have := h.2.2 j hlt; rw [hle] at this; cases this
            have hle' : Op.bytesLess ts[j].name.toList ts[k].name.toList = false := hle
            clear hle hj
            go_wp2_with fail
            obtain ⟨m0, m1, m2⟩ := HM.three
            have l0' := (HL1.on1 (.cells #[.string ts[k].name, .slice c1 ts[k].cols.length p1, .slice c2 ts[k].keys.length p2] 47)).one
            have e0' := cell_on d0' (ch_alloc (Below.refl _ _) (.cells #[.string ts[k].name, .slice c1 ts[k].cols.length p1, .slice c2 ts[k].keys.length p2] 47))
            refine region_grown (by kernel_rfl) (by kernel_rfl) ?_
            repeat (go_big_quiet_step (first | (intro hu; go_at_call 70; exact hu.call (HS.out _ (HY.out.on (ch_trans (ch_alloc (Below.refl _ _) _) hu)))) | (intro hu; have n0 := hu.cell m0; have n1 := hu.cell m1; have n2 := hu.cell m2; have n3 := hu.cell l0'; have n4 := hu.cell e0'; go_simp; (try exact rfl))))
            refine wpQuiet_nil ?_
            intro w1 b1
            have b1 : Below (wr.alloc (.cells #[.string ts[k].name, .slice c1 ts[k].cols.length p1, .slice c2 ts[k].keys.length p2] 47)).heap.size (wr.alloc (.cells #[.string ts[k].name, .slice c1 ts[k].cols.length p1, .slice c2 ts[k].keys.length p2] 47)) w1 := b1
            go_wp2
            go_ret
            exact ⟨_, rfl, ⟨fun h => by simp at h, fun h => absurd h HB.out⟩, (by repeat (first | with_reducible exact Below.refl _ _ | with_reducible assumption | with_reducible refine ch_alloc ?_ _ | with_reducible refine Below.drew ?_ | with_reducible refine below_draws _ ?_ | (with_reducible refine Below.setCell ?_ ?_ _; rotate_left; focus (first | with_reducible exact Nat.le_refl _ | (simp; done) | (simp; omega) | (simp at *; omega))) | with_reducible refine ch_trans ?_ (by with_reducible assumption)))⟩
          · have HN' : Hid (∀ i (h : i < ts.length), i < k + 1 → ts[i].right ∧ ∀ j (g : j < ts.length), i = j + 1 → lessB' ts[j].name ts[i].name = true) := fun i h hi => by
              by_cases e : i = k
              · subst e
                exact ⟨HQ.out, fun j' g e => by
                  obtain rfl : j' = j := by omega
                  exact hle⟩
              · exact HN.out i h (by omega)
            have hle' : Op.bytesLess ts[j].name.toList ts[k].name.toList = true := hle
            clear hle hj
            go_wp2_with fail
            obtain ⟨m0, m1, m2⟩ := HM.three
            have l0' := (HL1.on1 (.cells #[.string ts[k].name, .slice c1 ts[k].cols.length p1, .slice c2 ts[k].keys.length p2] 47)).one
            have e0' := cell_on d0' (ch_alloc (Below.refl _ _) (.cells #[.string ts[k].name, .slice c1 ts[k].cols.length p1, .slice c2 ts[k].keys.length p2] 47))
            refine region_grown (by kernel_rfl) (by kernel_rfl) ?_
            repeat (go_big_quiet_step (first | (intro hu; go_at_call 70; exact hu.call (HS.out _ (HY.out.on (ch_trans (ch_alloc (Below.refl _ _) _) hu)))) | (intro hu; have n0 := hu.cell m0; have n1 := hu.cell m1; have n2 := hu.cell m2; have n3 := hu.cell l0'; have n4 := hu.cell e0'; go_simp; (try exact rfl))))
            refine wpQuiet_nil ?_
            intro w1 b1
            have b1 : Below (wr.alloc (.cells #[.string ts[k].name, .slice c1 ts[k].cols.length p1, .slice c2 ts[k].keys.length p2] 47)).heap.size (wr.alloc (.cells #[.string ts[k].name, .slice c1 ts[k].cols.length p1, .slice c2 ts[k].keys.length p2] 47)) w1 := b1
            go_wp2
            go_round
            case rel => exact ⟨k + 1, by omega, by go_num, by
              have : Below (w.alloc (.cells #[.slice (some ⟨b, off, none⟩) ts.length cap] 34)).heap.size (w.alloc (.cells #[.slice (some ⟨b, off, none⟩) ts.length cap] 34)) w1 := (by repeat (first | with_reducible exact Below.refl _ _ | with_reducible assumption | with_reducible refine ch_alloc ?_ _ | with_reducible refine Below.drew ?_ | with_reducible refine below_draws _ ?_ | (with_reducible refine Below.setCell ?_ ?_ _; rotate_left; focus (first | with_reducible exact Nat.le_refl _ | (simp; done) | (simp; omega) | (simp at *; omega))) | with_reducible refine ch_trans ?_ (by with_reducible assumption)))
              simpa using this, HN'⟩
            case measure => simp [intOf]; omega
      · have HS : Hid (∀ u : World, TabV u #[.string ts[k].name, .slice c1 ts[k].cols.length p1, .slice c2 ts[k].keys.length p2] ts[k] → Calls Try.prog 70 #[.agg #[.string ts[k].name, .slice c1 ts[k].cols.length p1, .slice c2 ts[k].keys.length p2]] u fun e w' => e = .returned (.bool false) ∧ Below u.heap.size u w') := fun u hu => (tableOk_spec _ ts[k] u hu (HF.out _ (List.getElem_mem hlt))).mono fun e w' ⟨q, h1, h2, h3⟩ => ⟨by rw [h1]; cases q with | false => rfl | true => exact absurd (h2.1 rfl) hr, h3⟩
        have HB : Hid (¬ catRight ts) := fun h => hr (h.2.1 k hlt)
        clear hr
        go_wp2_with fail
        obtain ⟨m0, m1, m2⟩ := HM.three
        have l0' := (HL1.on1 (.cells #[.string ts[k].name, .slice c1 ts[k].cols.length p1, .slice c2 ts[k].keys.length p2] 47)).one
        refine region_grown (by kernel_rfl) (by kernel_rfl) ?_
        repeat (go_big_quiet_step (first | (intro hu; go_at_call 70; exact hu.call (HS.out _ (HY.out.on (ch_trans (ch_alloc (Below.refl _ _) _) hu)))) | (intro hu; have n0 := hu.cell m0; have n1 := hu.cell m1; have n2 := hu.cell m2; have n3 := hu.cell l0'; go_simp; (try exact rfl))))
        refine wpQuiet_nil ?_
        intro w1 b1
        have b1 : Below (wr.alloc (.cells #[.string ts[k].name, .slice c1 ts[k].cols.length p1, .slice c2 ts[k].keys.length p2] 47)).heap.size (wr.alloc (.cells #[.string ts[k].name, .slice c1 ts[k].cols.length p1, .slice c2 ts[k].keys.length p2] 47)) w1 := b1
        go_wp2
        go_ret
        exact ⟨_, rfl, ⟨fun h => by simp at h, fun h => absurd h HB.out⟩, (by repeat (first | with_reducible exact Below.refl _ _ | with_reducible assumption | with_reducible refine ch_alloc ?_ _ | with_reducible refine Below.drew ?_ | with_reducible refine below_draws _ ?_ | (with_reducible refine Below.setCell ?_ ?_ _; rotate_left; focus (first | with_reducible exact Nat.le_refl _ | (simp; done) | (simp; omega) | (simp at *; omega))) | with_reducible refine ch_trans ?_ (by with_reducible assumption)))⟩
    · have hlti : (ts.length : Int) ≤ k := by omega
      have HY : Hid (catRight ts) := ⟨by omega, fun i h => (HN.out i h (by omega)).1, fun i h => (HN.out (i + 1) h (by omega)).2 i (by omega) rfl⟩
      go_wp2
      go_ret
      exact ⟨_, rfl, ⟨fun _ => HY.out, fun _ => rfl⟩, (by repeat (first | with_reducible exact Below.refl _ _ | with_reducible assumption | with_reducible refine ch_alloc ?_ _ | with_reducible refine Below.drew ?_ | with_reducible refine below_draws _ ?_ | (with_reducible refine Below.setCell ?_ ?_ _; rotate_left; focus (first | with_reducible exact Nat.le_refl _ | (simp; done) | (simp; omega) | (simp at *; omega))) | with_reducible refine ch_trans ?_ (by with_reducible assumption)))⟩

set_option maxRecDepth 100000 in
set_option maxHeartbeats 4000000 in
/-- impl.CatOk -/
theorem catOk_impl (v : Value) (ts : List Tc) (w : World) (hx : TabsV w v ts) (hf : fits ts) :
    Calls Try.prog 49 #[.agg #[v]] w fun e w' => ∃ q : Bool, e = .returned (.bool q) ∧ (q = true ↔ catRight ts) ∧ Below w.heap.size w w' := by
  obtain ⟨a, cap, rfl, hl, hm⟩ := hx.lit
  unfold maxLen at hm
  have HX : Hid (TabsV w (.slice a ts.length cap) ts) := hx
  have HF : Hid (fits ts) := hf
  have HL := Loc.new w #[.slice a ts.length cap] 34
  clear hx hf
  by_cases h6 : 6 < ts.length
  · have e6 : decide ((6 : Int) < ts.length) = true := by simp; omega
    go_enter Try.func49, Try.ntmps49
    go_wp2
    go_ret
    exact ⟨_, rfl, ⟨fun h => by simp at h, fun h => by have := h.1; omega⟩, (by repeat (first | with_reducible exact Below.refl _ _ | with_reducible assumption | with_reducible refine ch_alloc ?_ _ | with_reducible refine Below.drew ?_ | with_reducible refine below_draws _ ?_ | (with_reducible refine Below.setCell ?_ ?_ _; rotate_left; focus (first | with_reducible exact Nat.le_refl _ | (simp; done) | (simp; omega) | (simp at *; omega))) | with_reducible refine ch_trans ?_ (by with_reducible assumption)))⟩
  have e6 : decide ((6 : Int) < ts.length) = false := by simp; omega
  go_enter Try.func49, Try.ntmps49
  go_wp2
  go_loopw [12] (fun i wr => ∃ k : Nat, k ≤ ts.length ∧ i = .int .i64 k ∧ Below (w.heap.size + 1) (w.alloc (.cells #[.slice a ts.length cap] 34)) wr ∧ Hid (∀ i (h : i < ts.length), i < k → ts[i].right ∧ ∀ j (g : j < ts.length), i = j + 1 → lessB' ts[j].name ts[i].name = true)) (fun i _ => ts.length - (intOf i).toNat)
  case atStart => exact ⟨0, Nat.zero_le _, rfl, Below.refl _ _, fun i h hi => by omega⟩
  case round =>
    obtain ⟨k, hk, rfl, hb0, HN⟩ := hrel
    have hb1 : Below (w.alloc (.cells #[.slice a ts.length cap] 34)).heap.size (w.alloc (.cells #[.slice a ts.length cap] 34)) wr := by simpa using hb0
    have hb : Below w.heap.size w wr := ch_trans (ch_alloc (Below.refl _ _) _) hb1
    have HL1 := HL.on hb1
    have l0 := HL1.one
    by_cases hlt : k < ts.length
    · have hlti : (k : Int) < ts.length := by omega
      obtain ⟨b, off, c1, p1, c2, p2, rfl, d0, d1, d2, hx⟩ := (HX.out.on hb).tab k hlt
      have HY : Hid (TabV wr #[.string ts[k].name, .slice c1 ts[k].cols.length p1, .slice c2 ts[k].keys.length p2] ts[k]) := hx
      have HM := Loc.new wr #[.string ts[k].name, .slice c1 ts[k].cols.length p1, .slice c2 ts[k].keys.length p2] 47
      clear hx
      by_cases hr : ts[k].right
      · have HS : Hid (∀ u : World, TabV u #[.string ts[k].name, .slice c1 ts[k].cols.length p1, .slice c2 ts[k].keys.length p2] ts[k] → Calls Try.prog 35 #[.agg #[.string ts[k].name, .slice c1 ts[k].cols.length p1, .slice c2 ts[k].keys.length p2]] u fun e w' => e = .returned (.bool true) ∧ Below u.heap.size u w') := fun u hu => (tableOk_impl _ ts[k] u hu (HF.out _ (List.getElem_mem hlt))).mono fun e w' ⟨q, h1, h2, h3⟩ => ⟨by rw [h1, h2.2 hr], h3⟩
        have HQ : Hid ts[k].right := hr
        clear hr
        by_cases hk0 : k = 0
        · subst hk0
          simp only [Nat.zero_mul, Nat.add_zero] at d0 d1 d2
          have HN' : Hid (∀ i (h : i < ts.length), i < 0 + 1 → ts[i].right ∧ ∀ j (g : j < ts.length), i = j + 1 → lessB' ts[j].name ts[i].name = true) := fun i h hi => by
            obtain rfl : i = 0 := by omega
            exact ⟨HQ.out, fun j g e => by omega⟩
          go_wp2_with fail
          obtain ⟨m0, m1, m2⟩ := HM.three
          have l0' := (HL1.on1 (.cells #[.string ts[0].name, .slice c1 ts[0].cols.length p1, .slice c2 ts[0].keys.length p2] 47)).one
          refine region_grown (by kernel_rfl) (by kernel_rfl) ?_
          repeat (go_big_quiet_step (first | (intro hu; go_at_call 35; exact hu.call (HS.out _ (HY.out.on (ch_trans (ch_alloc (Below.refl _ _) _) hu)))) | (intro hu; have n0 := hu.cell m0; have n1 := hu.cell m1; have n2 := hu.cell m2; have n3 := hu.cell l0'; go_simp; (try exact rfl))))
          refine wpQuiet_nil ?_
          intro w1 b1
          have b1 : Below (wr.alloc (.cells #[.string ts[0].name, .slice c1 ts[0].cols.length p1, .slice c2 ts[0].keys.length p2] 47)).heap.size (wr.alloc (.cells #[.string ts[0].name, .slice c1 ts[0].cols.length p1, .slice c2 ts[0].keys.length p2] 47)) w1 := b1
          go_wp2
          go_round
          case rel => exact ⟨0 + 1, by omega, by go_num, by
            have : Below (w.alloc (.cells #[.slice (some ⟨b, off, none⟩) ts.length cap] 34)).heap.size (w.alloc (.cells #[.slice (some ⟨b, off, none⟩) ts.length cap] 34)) w1 := (by repeat (first | with_reducible exact Below.refl _ _ | with_reducible assumption | with_reducible refine ch_alloc ?_ _ | with_reducible refine Below.drew ?_ | with_reducible refine below_draws _ ?_ | (with_reducible refine Below.setCell ?_ ?_ _; rotate_left; focus (first | with_reducible exact Nat.le_refl _ | (simp; done) | (simp; omega) | (simp at *; omega))) | with_reducible refine ch_trans ?_ (by with_reducible assumption)))
            simpa using this, HN'⟩
          case measure => simp [intOf]; omega
        · obtain ⟨j, hj⟩ : ∃ j, k = j + 1 := ⟨k - 1, by omega⟩
          have hjl : j < ts.length := by omega
          have hjli : (j : Int) < ts.length := by omega
          obtain ⟨b', off', c1', p1', c2', p2', e', d0', d1', d2', hx'⟩ := (HX.out.on hb).tab j hjl
          cases e'
          clear hx' d1' d2'
          have e0 : decide ((0 : Int) < (k : Int)) = true := by simp; omega
          have e0n : decide (0 < k) = true := by simp; omega
          have hj0 : (0 : Int) ≤ (j : Int) := by omega
          have hwr : IntKind.i64.wrap ((k : Int) - 1) = (j : Int) := by rw [IntKind.wrap_i64]; omega
          cases hle : lessB' ts[j].name ts[k].name
          · have HB : Hid (¬ catRight ts) := fun h => by subst hj; have := h.2.2 j hlt; rw [hle] at this; cases this
            have hle' : Op.bytesLess ts[j].name.toList ts[k].name.toList = false := hle
            clear hle hj
            go_wp2_with fail
            obtain ⟨m0, m1, m2⟩ := HM.three
            have l0' := (HL1.on1 (.cells #[.string ts[k].name, .slice c1 ts[k].cols.length p1, .slice c2 ts[k].keys.length p2] 47)).one
            have e0' := cell_on d0' (ch_alloc (Below.refl _ _) (.cells #[.string ts[k].name, .slice c1 ts[k].cols.length p1, .slice c2 ts[k].keys.length p2] 47))
            refine region_grown (by kernel_rfl) (by kernel_rfl) ?_
            repeat (go_big_quiet_step (first | (intro hu; go_at_call 35; exact hu.call (HS.out _ (HY.out.on (ch_trans (ch_alloc (Below.refl _ _) _) hu)))) | (intro hu; have n0 := hu.cell m0; have n1 := hu.cell m1; have n2 := hu.cell m2; have n3 := hu.cell l0'; have n4 := hu.cell e0'; go_simp; (try exact rfl))))
            refine wpQuiet_nil ?_
            intro w1 b1
            have b1 : Below (wr.alloc (.cells #[.string ts[k].name, .slice c1 ts[k].cols.length p1, .slice c2 ts[k].keys.length p2] 47)).heap.size (wr.alloc (.cells #[.string ts[k].name, .slice c1 ts[k].cols.length p1, .slice c2 ts[k].keys.length p2] 47)) w1 := b1
            go_wp2
            go_ret
            exact ⟨_, rfl, ⟨fun h => by simp at h, fun h => absurd h HB.out⟩, (by repeat (first | with_reducible exact Below.refl _ _ | with_reducible assumption | with_reducible refine ch_alloc ?_ _ | with_reducible refine Below.drew ?_ | with_reducible refine below_draws _ ?_ | (with_reducible refine Below.setCell ?_ ?_ _; rotate_left; focus (first | with_reducible exact Nat.le_refl _ | (simp; done) | (simp; omega) | (simp at *; omega))) | with_reducible refine ch_trans ?_ (by with_reducible assumption)))⟩
          · have HN' : Hid (∀ i (h : i < ts.length), i < k + 1 → ts[i].right ∧ ∀ j (g : j < ts.length), i = j + 1 → lessB' ts[j].name ts[i].name = true) := fun i h hi => by
              by_cases e : i = k
              · subst e
                exact ⟨HQ.out, fun j' g e => by
                  obtain rfl : j' = j := by omega
                  exact hle⟩
              · exact HN.out i h (by omega)
            have hle' : Op.bytesLess ts[j].name.toList ts[k].name.toList = true := hle
            clear hle hj
            go_wp2_with fail
            obtain ⟨m0, m1, m2⟩ := HM.three
            have l0' := (HL1.on1 (.cells #[.string ts[k].name, .slice c1 ts[k].cols.length p1, .slice c2 ts[k].keys.length p2] 47)).one
            have e0' := cell_on d0' (ch_alloc (Below.refl _ _) (.cells #[.string ts[k].name, .slice c1 ts[k].cols.length p1, .slice c2 ts[k].keys.length p2] 47))
            refine region_grown (by kernel_rfl) (by kernel_rfl) ?_
            repeat (go_big_quiet_step (first | (intro hu; go_at_call 35; exact hu.call (HS.out _ (HY.out.on (ch_trans (ch_alloc (Below.refl _ _) _) hu)))) | (intro hu; have n0 := hu.cell m0; have n1 := hu.cell m1; have n2 := hu.cell m2; have n3 := hu.cell l0'; have n4 := hu.cell e0'; go_simp; (try exact rfl))))
            refine wpQuiet_nil ?_
            intro w1 b1
            have b1 : Below (wr.alloc (.cells #[.string ts[k].name, .slice c1 ts[k].cols.length p1, .slice c2 ts[k].keys.length p2] 47)).heap.size (wr.alloc (.cells #[.string ts[k].name, .slice c1 ts[k].cols.length p1, .slice c2 ts[k].keys.length p2] 47)) w1 := b1
            go_wp2
            go_round
            case rel => exact ⟨k + 1, by omega, by go_num, by
              have : Below (w.alloc (.cells #[.slice (some ⟨b, off, none⟩) ts.length cap] 34)).heap.size (w.alloc (.cells #[.slice (some ⟨b, off, none⟩) ts.length cap] 34)) w1 := (by repeat (first | with_reducible exact Below.refl _ _ | with_reducible assumption | with_reducible refine ch_alloc ?_ _ | with_reducible refine Below.drew ?_ | with_reducible refine below_draws _ ?_ | (with_reducible refine Below.setCell ?_ ?_ _; rotate_left; focus (first | with_reducible exact Nat.le_refl _ | (simp; done) | (simp; omega) | (simp at *; omega))) | with_reducible refine ch_trans ?_ (by with_reducible assumption)))
              simpa using this, HN'⟩
            case measure => simp [intOf]; omega
      · have HS : Hid (∀ u : World, TabV u #[.string ts[k].name, .slice c1 ts[k].cols.length p1, .slice c2 ts[k].keys.length p2] ts[k] → Calls Try.prog 35 #[.agg #[.string ts[k].name, .slice c1 ts[k].cols.length p1, .slice c2 ts[k].keys.length p2]] u fun e w' => e = .returned (.bool false) ∧ Below u.heap.size u w') := fun u hu => (tableOk_impl _ ts[k] u hu (HF.out _ (List.getElem_mem hlt))).mono fun e w' ⟨q, h1, h2, h3⟩ => ⟨by rw [h1]; cases q with | false => rfl | true => exact absurd (h2.1 rfl) hr, h3⟩
        have HB : Hid (¬ catRight ts) := fun h => hr (h.2.1 k hlt)
        clear hr
        go_wp2_with fail
        obtain ⟨m0, m1, m2⟩ := HM.three
        have l0' := (HL1.on1 (.cells #[.string ts[k].name, .slice c1 ts[k].cols.length p1, .slice c2 ts[k].keys.length p2] 47)).one
        refine region_grown (by kernel_rfl) (by kernel_rfl) ?_
        repeat (go_big_quiet_step (first | (intro hu; go_at_call 35; exact hu.call (HS.out _ (HY.out.on (ch_trans (ch_alloc (Below.refl _ _) _) hu)))) | (intro hu; have n0 := hu.cell m0; have n1 := hu.cell m1; have n2 := hu.cell m2; have n3 := hu.cell l0'; go_simp; (try exact rfl))))
        refine wpQuiet_nil ?_
        intro w1 b1
        have b1 : Below (wr.alloc (.cells #[.string ts[k].name, .slice c1 ts[k].cols.length p1, .slice c2 ts[k].keys.length p2] 47)).heap.size (wr.alloc (.cells #[.string ts[k].name, .slice c1 ts[k].cols.length p1, .slice c2 ts[k].keys.length p2] 47)) w1 := b1
        go_wp2
        go_ret
        exact ⟨_, rfl, ⟨fun h => by simp at h, fun h => absurd h HB.out⟩, (by repeat (first | with_reducible exact Below.refl _ _ | with_reducible assumption | with_reducible refine ch_alloc ?_ _ | with_reducible refine Below.drew ?_ | with_reducible refine below_draws _ ?_ | (with_reducible refine Below.setCell ?_ ?_ _; rotate_left; focus (first | with_reducible exact Nat.le_refl _ | (simp; done) | (simp; omega) | (simp at *; omega))) | with_reducible refine ch_trans ?_ (by with_reducible assumption)))⟩
    · have hlti : (ts.length : Int) ≤ k := by omega
      have HY : Hid (catRight ts) := ⟨by omega, fun i h => (HN.out i h (by omega)).1, fun i h => (HN.out (i + 1) h (by omega)).2 i (by omega) rfl⟩
      go_wp2
      go_ret
      exact ⟨_, rfl, ⟨fun _ => HY.out, fun _ => rfl⟩, (by repeat (first | with_reducible exact Below.refl _ _ | with_reducible assumption | with_reducible refine ch_alloc ?_ _ | with_reducible refine Below.drew ?_ | with_reducible refine below_draws _ ?_ | (with_reducible refine Below.setCell ?_ ?_ _; rotate_left; focus (first | with_reducible exact Nat.le_refl _ | (simp; done) | (simp; omega) | (simp at *; omega))) | with_reducible refine ch_trans ?_ (by with_reducible assumption)))⟩

end Go.Proofs.Ytiijahoheajppab
