/- The place of a row with a key, given and landed. -/
import Derived.Test.YtbpdbhchnpnabajRoS
import Derived.Test.YtbpdbhchnpnabajFi
import Derived.Test.YtbpdbhchnpnabajKg
import Derived.Test.YtbpdbhchnpnabajSameV
namespace Go.Proofs.Ytbpdbhchnpnabaj
open Go.ChangeShapes Go.WideShapes Go.ChangeAt Go.RowKit

/-- What is told. -/
def isRow (t : Tc) (rs : List (List Vc)) (key : List Vc) (c : Int) : Prop := (¬ rowsRight t rs ∧ c = -1) ∨ (rowsRight t rs ∧ IsAt (rs.map (keyVals t)) key c)
theorem isRow_one {t : Tc} {rs : List (List Vc)} {key : List Vc} {c d : Int} (h : isRow t rs key c) (k : isRow t rs key d) : c = d := by
  rcases h with ⟨h, rfl⟩ | ⟨h, h'⟩ <;> rcases k with ⟨k, rfl⟩ | ⟨k, k'⟩
  · rfl
  · exact absurd k h
  · exact absurd h k
  · exact isAt_one h' k'

set_option maxRecDepth 100000 in
set_option maxHeartbeats 4000000 in
/-- spec.RowAt -/
theorem rowAt_spec (x : Array Value) (t : Tc) (lv : Value) (rs : List (List Vc)) (kv : Value) (key : List Vc) (w : World) (hx : TabV w x t) (hl : RowsV w lv rs) (hk : ValsV w kv key) (hf : t.fit) :
    Calls Try.prog 7 #[.agg x, lv, kv] w fun e w' => ∃ c : Int, e = .returned (.int .i64 c) ∧ isRow t rs key c ∧ Below w.heap.size w w' := by
  obtain ⟨a, p, o, r, rfl, hx, _, _⟩ := hx.lit
  obtain ⟨a1, p1, rfl, hl1, hm1, hl⟩ := hl.lit
  obtain ⟨a2, p2, rfl, hl2, hm2, hk⟩ := hk.lit
  unfold maxLen at hm1 hm2
  have HX : Hid (TabV w #[.string t.name, .slice a t.cols.length p, .slice o t.keys.length r] t) := hx
  have HA : Hid (RowsV w (.slice a1 rs.length p1) rs) := hl
  have HK : Hid (ValsV w (.slice a2 key.length p2) key) := hk
  have HF : Hid t.fit := hf
  have HL := Loc.new w #[.string t.name, .slice a t.cols.length p, .slice o t.keys.length r] 34
  have hbv : Below w.heap.size w (w.alloc (.cells #[.string t.name, .slice a t.cols.length p, .slice o t.keys.length r] 34)) := (by repeat (first | with_reducible exact Below.refl _ _ | with_reducible assumption | with_reducible refine ch_alloc ?_ _ | with_reducible refine Below.drew ?_ | with_reducible refine below_draws _ ?_ | (with_reducible refine Below.setCell ?_ ?_ _; rotate_left; focus (first | with_reducible exact Nat.le_refl _ | (simp; done) | (simp; omega) | (simp at *; omega))) | with_reducible refine ch_trans ?_ (by with_reducible assumption)))
  clear hx hl hk hf
  obtain ⟨l0, l1, l2⟩ := HL.three
  go_enter Try.func7, Try.ntmps7
  go_wp2_with fail
  refine (rowsOk_spec _ t _ rs _ (HX.out.on hbv) (HA.out.on hbv) HF.out).mono ?_
  rintro e w2 ⟨q, rfl, hq, b2⟩
  have HQ : Hid (q = true ↔ rowsRight t rs) := hq
  have HL2 := HL.on b2
  have hb2 : Below w.heap.size w w2 := ch_trans hbv b2
  clear b2 HL l0 l1 l2 hbv hq
  cases q
  · have HB : Hid (isRow t rs key (-1)) := Or.inl ⟨fun h => by (have := HQ.out.2 h; cases this), rfl⟩
    clear HQ
    go_wp2
    go_ret
    exact ⟨_, rfl, HB.out, hb2⟩
  have HRR : Hid (rowsRight t rs) := HQ.out.1 (by trivial)
  clear HQ
  go_wp2
  go_loopw [15] (fun i wr => ∃ k : Nat, k ≤ rs.length ∧ i = .int .i64 k ∧ Below w2.heap.size w2 wr ∧ Hid (∀ i (h : i < rs.length), i < k → keyVals t rs[i] ≠ key)) (fun i _ => rs.length - (intOf i).toNat)
  case atStart => exact ⟨0, Nat.zero_le _, rfl, Below.refl _ _, fun i h hi => by omega⟩
  case round =>
    obtain ⟨k, hk, rfl, hb, HN⟩ := hrel
    have hbw : Below w.heap.size w wr := ch_trans hb2 hb
    have HL3 := HL2.on hb
    by_cases hlt : k < rs.length
    · have hlti : (k : Int) < rs.length := by omega
      obtain ⟨b, off, c, pc, rfl, d0, hx⟩ := (HA.out.on hbw).rw k hlt
      have HLV := HL3.on1 (.cells #[.slice c rs[k].length pc] 54)
      obtain ⟨l0, l1, l2⟩ := HLV.three
      have m0 := (Loc.new wr #[.slice c rs[k].length pc] 54).one
      have hbv : Below wr.heap.size wr (wr.alloc (.cells #[.slice c rs[k].length pc] 54)) := ch_alloc (Below.refl _ _) _
      have HFK : Hid (rowFits t.cols rs[k]) := HRR.out.2.2.1 k hlt
      have HKK : Hid (∀ u : World, Below wr.heap.size wr u → Calls Try.prog 21 #[.agg #[.string t.name, .slice a t.cols.length p, .slice o t.keys.length r], .agg #[.slice c rs[k].length pc]] u fun e w' => ∃ kv, e = .returned kv ∧ Below u.heap.size u w' ∧ ValsV w' kv (keyVals t rs[k])) := fun u hu => (l03Key_any _ t _ rs[k] u (HX.out.on (ch_trans hbw hu)) (hx.on hu) HRR.out.1 HFK.out.1).mono fun e w' ⟨kv, h1, h2, h3⟩ => ⟨kv, h1, h2, h3.vals⟩
      clear hx
      go_wp2_with fail
      refine (HKK.out _ hbv).mono ?_
      rintro e w3 ⟨kj, rfl, b3, vj⟩
      have hw3 : Below w.heap.size w w3 := ch_trans hbw (ch_trans hbv b3)
      have hb3 : Below w2.heap.size w2 w3 := ch_trans hb (ch_trans hbv b3)
      have VJ : Hid (ValsV w3 kj (keyVals t rs[k])) := vj
      clear vj b3
      go_wp2_with fail
      refine (sameVals_spec _ _ _ _ _ VJ.out (HK.out.on hw3)).mono ?_
      rintro e w4 ⟨q, rfl, hq, b4⟩
      have hw4 := ch_trans hw3 b4
      have hb4 := ch_trans hb3 b4
      clear b4 hw3 hb3 l0 l1 l2 m0 hbv
      cases q
      · have HN' : Hid (∀ i (h : i < rs.length), i < k + 1 → keyVals t rs[i] ≠ key) := fun i h hi => by
          by_cases e : i = k
          · subst e; exact fun e => by have := hq.2 e; cases this
          · exact HN.out i h (by omega)
        clear hq
        go_wp2
        go_round
        case rel => exact ⟨k + 1, by omega, by go_num, hb4, HN'⟩
        case measure => simp [intOf]; omega
      · have HY : Hid (isRow t rs key (k : Int)) := Or.inr ⟨HRR.out, Or.inr ⟨k, by simpa using hlt, rfl, by rw [List.getElem_map]; exact hq.1 rfl, fun i g hi => by
          rw [List.getElem_map]
          exact HN.out i (by simpa using g) hi⟩⟩
        clear hq
        go_wp2
        go_ret
        exact ⟨_, rfl, HY.out, hw4⟩
    · have hlti : (rs.length : Int) ≤ k := by omega
      have HY : Hid (isRow t rs key (-1)) := Or.inr ⟨HRR.out, Or.inl ⟨rfl, fun i h => by
        rw [List.getElem_map]
        exact HN.out i (by simpa using h) (by simp at h; omega)⟩⟩
      go_wp2
      go_ret
      exact ⟨_, rfl, HY.out, hbw⟩

set_option maxRecDepth 100000 in
set_option maxHeartbeats 4000000 in
/-- impl.RowAt -/
theorem rowAt_impl (x : Array Value) (t : Tc) (lv : Value) (rs : List (List Vc)) (kv : Value) (key : List Vc) (w : World) (hx : TabV w x t) (hl : RowsV w lv rs) (hk : ValsV w kv key) (hf : t.fit) (hkl : t.keys.length ≤ 1048576) :
    Calls Try.prog 11 #[.agg x, lv, kv] w fun e w' => ∃ c : Int, e = .returned (.int .i64 c) ∧ isRow t rs key c ∧ Below w.heap.size w w' := by
  obtain ⟨a, p, o, r, rfl, hx, _, _⟩ := hx.lit
  obtain ⟨a1, p1, rfl, hl1, hm1, hl⟩ := hl.lit
  obtain ⟨a2, p2, rfl, hl2, hm2, hk⟩ := hk.lit
  unfold maxLen at hm1 hm2
  have HX : Hid (TabV w #[.string t.name, .slice a t.cols.length p, .slice o t.keys.length r] t) := hx
  have HA : Hid (RowsV w (.slice a1 rs.length p1) rs) := hl
  have HK : Hid (ValsV w (.slice a2 key.length p2) key) := hk
  have HF : Hid (t.fit ∧ t.keys.length ≤ 1048576) := ⟨hf, hkl⟩
  have HL := Loc.new w #[.string t.name, .slice a t.cols.length p, .slice o t.keys.length r] 34
  have hbv : Below w.heap.size w (w.alloc (.cells #[.string t.name, .slice a t.cols.length p, .slice o t.keys.length r] 34)) := (by repeat (first | with_reducible exact Below.refl _ _ | with_reducible assumption | with_reducible refine ch_alloc ?_ _ | with_reducible refine Below.drew ?_ | with_reducible refine below_draws _ ?_ | (with_reducible refine Below.setCell ?_ ?_ _; rotate_left; focus (first | with_reducible exact Nat.le_refl _ | (simp; done) | (simp; omega) | (simp at *; omega))) | with_reducible refine ch_trans ?_ (by with_reducible assumption)))
  clear hx hl hk hf hkl
  obtain ⟨l0, l1, l2⟩ := HL.three
  go_enter Try.func11, Try.ntmps11
  go_wp2_with fail
  refine (rowsOk_impl _ t _ rs _ (HX.out.on hbv) (HA.out.on hbv) HF.out.1).mono ?_
  rintro e w2 ⟨q, rfl, hq, b2⟩
  have HQ : Hid (q = true ↔ rowsOkP t rs (rowsGood t rs)) := hq
  have HL2 := HL.on b2
  have hb2 : Below w.heap.size w w2 := ch_trans hbv b2
  clear b2 HL l0 l1 l2 hbv hq
  obtain ⟨l0, l1, l2⟩ := HL2.three
  cases q
  · have HB : Hid (isRow t rs key (-1)) := Or.inl ⟨fun h => by (have := HQ.out.2 (Or.inr h); cases this), rfl⟩
    clear HQ
    go_wp2
    go_ret
    exact ⟨_, rfl, HB.out, hb2⟩
  have HRR : Hid (rowsOkP t rs (rowsGood t rs)) := HQ.out.1 (by trivial)
  clear HQ
  go_wp2_with fail
  refine (keyPlacesOf_gen _ t _ (HX.out.on hb2) HF.out.1 HF.out.2).mono ?_
  rintro e w3 ⟨pv, rfl, b3, hi⟩
  have hb3 := ch_trans hb2 b3
  have HI : Hid (IntsV w3 pv t.placesG) := hi
  clear hi b3 l0 l1 l2
  have HW : Hid (∀ r ∈ rs, within' t.placesG r.length) := fun r hr => by
    rcases HRR.out with h | h
    · subst h; simp at hr
    · obtain ⟨i, hi, rfl⟩ := List.getElem_of_mem hr
      rw [right_places h.1, (h.2.2.1 i hi).1]
      exact right_within h.1
  go_wp2_with fail
  refine (find_any _ t.placesG _ rs _ key _ HI.out (HA.out.on hb3) (HK.out.on hb3) HW.out).mono ?_
  rintro e w4 ⟨c, rfl, hc, b4⟩
  have hb4 := ch_trans hb3 b4
  have HY : Hid (isRow t rs key c) := by
    rcases HRR.out with h | h
    · subst h
      have hc1 : c = -1 := by
        rcases hc with h | ⟨k, hk, _⟩
        · exact h.1
        · simp at hk
      by_cases hR : rowsRight t []
      · exact Or.inr ⟨hR, Or.inl ⟨hc1, fun i h => by simp at h⟩⟩
      · exact Or.inl ⟨hR, hc1⟩
    · refine Or.inr ⟨h, ?_⟩
      rw [right_places h.1] at hc
      exact hc
  clear hc b4
  go_wp2
  go_ret
  exact ⟨_, rfl, HY.out, hb4⟩
end Go.Proofs.Ytbpdbhchnpnabaj
