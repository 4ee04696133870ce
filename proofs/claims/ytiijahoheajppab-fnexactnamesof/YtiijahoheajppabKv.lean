/- The key of a row: the given l03Key, the landed keyOf. -/
import Derived.Test.YtiijahoheajppabKg
import Derived.Test.YtiijahoheajppabVs
import Derived.Test.YtiijahoheajppabGr
import Derived.Deep.RegionWith
namespace Go.Proofs.Ytiijahoheajppab
open Go.ChangeShapes Go.WideShapes Go.ChangeAt Go.RowKit

abbrev Vc.zero : Vc := ⟨0, 0, ByteArray.empty⟩
/-- The values at some places. -/
def valsAt (is : List Int) (vs : List Vc) : List Vc := is.map fun i => vs.getD i.toNat Vc.zero
/-- The key of a row. -/
def keyVals (t : Tc) (vs : List Vc) : List Vc := valsAt t.places vs
theorem valsAt_take {is : List Int} {vs : List Vc} {k i : Nat} (hk : k < is.length) (he : is[k] = (i : Int)) (hi : i < vs.length) : ((valsAt is vs).take (k + 1)).map Vc.cells = ((valsAt is vs).take k).map Vc.cells ++ [vs[i].cells] := by
  have hl : k < (valsAt is vs).length := by simpa [valsAt] using hk
  rw [List.take_succ_eq_append_getElem hl, List.map_append]
  simp [valsAt, he, hi]
theorem Got.vals {w : World} {B : Nat} {T : TypeId} {v : Value} {vs : List Vc} (h : Got w B T 3 v (vs.map Vc.cells)) : ValsV w v vs := by
  obtain ⟨a, cap, e, h1, h2, h3, _⟩ := h.row
  exact ⟨a, cap, by simpa using e, by simpa using h1, h2, h3⟩
theorem infoVal : (Try.prog.info? 56).map (fun i => (i.zero, i.size, i.bytes)) = some (some (.agg #[.int .i64 0, .int .i64 0, .string ByteArray.empty]), 3, 32) := by kernel_rfl
theorem val_one (c : Vc) : ∀ u ∈ c.cells.toList, u.oneCell' = true := by
  intro u hu
  simp at hu
  rcases hu with rfl | rfl | rfl <;> rfl
/-- Places within a row. -/
def within' (is : List Int) (n : Nat) : Prop := ∀ k (h : k < is.length), ∃ i : Nat, i < n ∧ is[k] = (i : Int)
theorem right_within {t : Tc} (h : t.right) : within' t.places t.cols.length := fun k hk => by
  obtain ⟨i, hi, e, _⟩ := right_key h k (by simpa [Tc.places] using hk)
  exact ⟨i, hi, by simpa [Tc.places] using e⟩

set_option maxRecDepth 100000 in
set_option maxHeartbeats 2000000 in
/-- spec.l03Key -/
theorem l03Key_any (x : Array Value) (t : Tc) (v : Value) (vs : List Vc) (w : World) (hx : TabV w x t) (hv : ValsV w v vs) (hr : t.right) (hn : vs.length = t.cols.length) :
    Calls Try.prog 79 #[.agg x, .agg #[v]] w fun e w' => ∃ kv, e = .returned kv ∧ Below w.heap.size w w' ∧ Got w' w.heap.size 56 3 kv ((keyVals t vs).map Vc.cells) := by
  obtain ⟨a, p, o, q, rfl, hx, hc, hk⟩ := hx.lit
  obtain ⟨a', p', rfl, _, hm', hv⟩ := hv.lit
  unfold maxLen at hm'
  have hcap : t.keys.length ≤ 8 ∧ t.cols.length ≤ 8 := by have := right_keys hr; have := hr.2.2.1; omega
  obtain ⟨hl1, hl2⟩ := hcap
  have HCC : Hid (ColsV w (.slice a t.cols.length p) t.cols) := hc
  have HK : Hid (RowAt w o 1 (t.keys.map strX)) := by
    obtain ⟨_, _, e, _, _, h⟩ := hk
    cases e
    exact h
  have HV : Hid (RowAt w a' 3 (vs.map Vc.cells)) := hv.row
  have HF : Hid (t.right ∧ vs.length = t.cols.length) := ⟨hr, hn⟩
  have hvl : vs.length ≤ 8 := by omega
  have HL := Loc.new w #[.string t.name, .slice a t.cols.length p, .slice o t.keys.length q] 47
  have HM := Loc.new (w.alloc (.cells #[.string t.name, .slice a t.cols.length p, .slice o t.keys.length q] 47)) #[.slice a' vs.length p'] 52
  rw [show (w.alloc (.cells #[.string t.name, .slice a t.cols.length p, .slice o t.keys.length q] 47)).heap.size = w.heap.size + 1 from by simp] at HM
  have HL2 := HL.on1 (.cells #[.slice a' vs.length p'] 52)
  clear hx hc hk hv hr hn HL
  go_enter Try.func79, Try.ntmps79
  go_wp2
  have hb0 : Below w.heap.size w (((w.alloc (.cells #[.string t.name, .slice a t.cols.length p, .slice o t.keys.length q] 47)).alloc (.cells #[.slice a' vs.length p'] 52)).alloc (.cells #[] 56)) := (by repeat (first | with_reducible exact Below.refl _ _ | with_reducible assumption | with_reducible refine ch_alloc ?_ _ | with_reducible refine Below.drew ?_ | with_reducible refine below_draws _ ?_ | (with_reducible refine Below.setCell ?_ ?_ _; rotate_left; focus (first | with_reducible exact Nat.le_refl _ | (simp; done) | (simp; omega) | (simp at *; omega))) | with_reducible refine ch_trans ?_ (by with_reducible assumption)))
  have HM3 := HM.on1 (.cells #[] 56)
  have HL3 := HL2.on1 (.cells #[] 56)
  have HG0 : Hid (Got (((w.alloc (.cells #[.string t.name, .slice a t.cols.length p, .slice o t.keys.length q] 47)).alloc (.cells #[.slice a' vs.length p'] 52)).alloc (.cells #[] 56)) (w.heap.size + 1 + 1) 56 3 (.slice (some ⟨w.heap.size + 1 + 1, 0, none⟩) 0 0) (((keyVals t vs).take 0).map Vc.cells)) := ⟨fun x h => by simp at h, by simp, Or.inr ⟨_, 0, #[], rfl, Nat.le_refl _, Own.at ((w.alloc (.cells #[.string t.name, .slice a t.cols.length p, .slice o t.keys.length q] 47)).alloc (.cells #[.slice a' vs.length p'] 52)) _ _ (by simp), by simp, by simp, by simp, by simp⟩⟩
  have hsz : w.heap.size + 1 + 1 ≤ (((w.alloc (.cells #[.string t.name, .slice a t.cols.length p, .slice o t.keys.length q] 47)).alloc (.cells #[.slice a' vs.length p'] 52)).alloc (.cells #[] 56)).heap.size := by simp
  clear HM HL2
  generalize (((w.alloc (.cells #[.string t.name, .slice a t.cols.length p, .slice o t.keys.length q] 47)).alloc (.cells #[.slice a' vs.length p'] 52)).alloc (.cells #[] 56)) = w1 at HL3 HM3 hb0 HG0 hsz ⊢
  go_loopw [5, 12] (fun v i wr => ∃ k : Nat, k ≤ t.keys.length ∧ i = .int .i64 k ∧ Below (w.heap.size + 1 + 1) w1 wr ∧ Hid (Got wr (w.heap.size + 1 + 1) 56 3 v (((keyVals t vs).take k).map Vc.cells))) (fun _ i _ => t.keys.length - (intOf i).toNat)
  case atStart => exact ⟨0, Nat.zero_le _, rfl, Below.refl _ _, HG0⟩
  case round =>
    clear HG0
    obtain ⟨k, hk, rfl, hb, HG⟩ := hrel
    obtain ⟨ag, ng, cg, rfl, hg⟩ := HG.out.lit2
    have HG' : Hid (Got wr (w.heap.size + 1 + 1) 56 3 (.slice ag ng cg) (((keyVals t vs).take k).map Vc.cells)) := hg
    have hbw : Below w.heap.size w wr := hb0.trans (hb.mono (by omega))
    have HL4 : Loc wr w.heap.size #[.string t.name, .slice a t.cols.length p, .slice o t.keys.length q] := fun j hj => (hb.cell (p := ⟨w.heap.size, j, none⟩) (by simp; omega)).trans (HL3 j hj)
    have HM4 : Loc wr (w.heap.size + 1) #[.slice a' vs.length p'] := fun j hj => (hb.cell (p := ⟨w.heap.size + 1, j, none⟩) (by simp)).trans (HM3 j hj)
    clear HG hg
    by_cases hlt : k < t.keys.length
    · have hlti : (k : Int) < t.keys.length := by omega
      obtain ⟨b, off, rfl, d0⟩ := (HK.out.on hbw).strs k hlt
      obtain ⟨i, hi, hci⟩ : ∃ i, ∃ hi : i < t.cols.length, colAt t.cols t.keys[k] = (i : Int) := by
        obtain ⟨i, hi, h, _⟩ := right_key HF.out.1 k hlt
        exact ⟨i, hi, h⟩
      have hiv : i < vs.length := by have := HF.out.2; omega
      have hii : (i : Int) < vs.length := by omega
      obtain ⟨b', off', rfl, e0, e1, e2⟩ := (HV.out.on hbw).vals i hiv
      have HPL : Hid _ := valsAt_take (is := t.places) (vs := vs) (k := k) (by simpa [Tc.places] using hlt) (by simpa [Tc.places] using hci) hiv
      have HCA : Hid (∀ u : World, ColsV u (.slice a t.cols.length p) t.cols → Calls Try.prog 72 #[.agg #[.string t.name, .slice a t.cols.length p, .slice (some ⟨b, off, none⟩) t.keys.length q], .string t.keys[k]] u fun e w' => e = .returned (.int .i64 i) ∧ Below u.heap.size u w') := fun u hu => by
        have := colAt_spec t.name (.slice a t.cols.length p) (.slice (some ⟨b, off, none⟩) t.keys.length q) t.cols t.keys[k] u hu
        rw [hci] at this
        exact this
      obtain ⟨l0, l1, l2⟩ := HL4.three
      have m0 := HM4.one
      have hB : w.heap.size + 1 + 1 ≤ wr.heap.size := by have := hb.size; omega
      clear hci
      go_wp2_with fail
      go_region_law (first
        | (go_simp; go_at_call 72; refine (HCA.out _ (HCC.out.on (by repeat (first | with_reducible exact Below.refl _ _ | with_reducible assumption | with_reducible refine ch_alloc ?_ _ | with_reducible refine Below.drew ?_ | with_reducible refine below_draws _ ?_ | (with_reducible refine Below.setCell ?_ ?_ _; rotate_left; focus (first | with_reducible exact Nat.le_refl _ | (simp; done) | (simp; omega) | (simp at *; omega))) | with_reducible refine ch_trans ?_ (by with_reducible assumption))))).mono ?_; rintro e w2 ⟨rfl, b2⟩; have m2 := cell_on m0 (show Below wr.heap.size wr w2 from (by repeat (first | with_reducible exact Below.refl _ _ | with_reducible assumption | with_reducible refine ch_alloc ?_ _ | with_reducible refine Below.drew ?_ | with_reducible refine below_draws _ ?_ | (with_reducible refine Below.setCell ?_ ?_ _; rotate_left; focus (first | with_reducible exact Nat.le_refl _ | (simp; done) | (simp; omega) | (simp at *; omega))) | with_reducible refine ch_trans ?_ (by with_reducible assumption)))); have e3 := cell_on e0 (show Below wr.heap.size wr w2 from (by repeat (first | with_reducible exact Below.refl _ _ | with_reducible assumption | with_reducible refine ch_alloc ?_ _ | with_reducible refine Below.drew ?_ | with_reducible refine below_draws _ ?_ | (with_reducible refine Below.setCell ?_ ?_ _; rotate_left; focus (first | with_reducible exact Nat.le_refl _ | (simp; done) | (simp; omega) | (simp at *; omega))) | with_reducible refine ch_trans ?_ (by with_reducible assumption)))); have e4 := cell_on e1 (show Below wr.heap.size wr w2 from (by repeat (first | with_reducible exact Below.refl _ _ | with_reducible assumption | with_reducible refine ch_alloc ?_ _ | with_reducible refine Below.drew ?_ | with_reducible refine below_draws _ ?_ | (with_reducible refine Below.setCell ?_ ?_ _; rotate_left; focus (first | with_reducible exact Nat.le_refl _ | (simp; done) | (simp; omega) | (simp at *; omega))) | with_reducible refine ch_trans ?_ (by with_reducible assumption)))); have e5 := cell_on e2 (show Below wr.heap.size wr w2 from (by repeat (first | with_reducible exact Below.refl _ _ | with_reducible assumption | with_reducible refine ch_alloc ?_ _ | with_reducible refine Below.drew ?_ | with_reducible refine below_draws _ ?_ | (with_reducible refine Below.setCell ?_ ?_ _; rotate_left; focus (first | with_reducible exact Nat.le_refl _ | (simp; done) | (simp; omega) | (simp at *; omega))) | with_reducible refine ch_trans ?_ (by with_reducible assumption)))))
        | (refine app_step rfl (.tmp 16) (.tmp 24) rfl Try.underlying48 infoVal rfl (by decide) (by decide) (w.heap.size + 1 + 1) _ (((keyVals t vs).take k).map Vc.cells) rfl (HG'.out.on (ch_alloc (show Below wr.heap.size wr w2 from (by repeat (first | with_reducible exact Below.refl _ _ | with_reducible assumption | with_reducible refine ch_alloc ?_ _ | with_reducible refine Below.drew ?_ | with_reducible refine below_draws _ ?_ | (with_reducible refine Below.setCell ?_ ?_ _; rotate_left; focus (first | with_reducible exact Nat.le_refl _ | (simp; done) | (simp; omega) | (simp at *; omega))) | with_reducible refine ch_trans ?_ (by with_reducible assumption)))) _)) w2.heap.size 1 vs[i].cells rfl (Loc.new _ _ _) rfl (val_one _) (by simp; omega) (by have := b2.size; simp at this ⊢; omega) ?_; intro v' w3 hg3 hb3))
      all_goals
        have HG2 : Hid (Got w3 (w.heap.size + 1 + 1) 56 3 v' (((keyVals t vs).take (k + 1)).map Vc.cells)) := by
          show Got _ _ _ _ _ _
          have h := HPL.out
          unfold keyVals
          rw [h]; exact hg3
        have hb4 : Below (w.heap.size + 1 + 1) w1 w3 := (hb.trans (Below.mono (show Below wr.heap.size wr (w2.alloc (.cells vs[i].cells 56)) from (by repeat (first | with_reducible exact Below.refl _ _ | with_reducible assumption | with_reducible refine ch_alloc ?_ _ | with_reducible refine Below.drew ?_ | with_reducible refine below_draws _ ?_ | (with_reducible refine Below.setCell ?_ ?_ _; rotate_left; focus (first | with_reducible exact Nat.le_refl _ | (simp; done) | (simp; omega) | (simp at *; omega))) | with_reducible refine ch_trans ?_ (by with_reducible assumption)))) hB)).trans hb3
        clear hb3 hg3
        go_wp2
        go_round
        case rel => exact ⟨k + 1, by omega, by go_num, hb4, HG2⟩
        case measure => simp [intOf]; omega
    · have hlti : (t.keys.length : Int) ≤ k := by omega
      have HI : Hid (Got wr w.heap.size 56 3 (.slice ag ng cg) ((keyVals t vs).map Vc.cells)) := by
        have h := HG'.out
        rw [List.take_of_length_le (by simp [keyVals, valsAt, Tc.places]; omega)] at h
        exact h.mono (by omega)
      go_wp2
      go_ret
      exact ⟨_, rfl, hbw, HI.out⟩
end Go.Proofs.Ytiijahoheajppab
