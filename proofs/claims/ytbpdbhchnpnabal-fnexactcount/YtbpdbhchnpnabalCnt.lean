/- How many rows a store has, given and landed. -/
import Derived.Test.YtbpdbhchnpnabalDbO
namespace Go.Proofs.Ytbpdbhchnpnabal
open Go.ChangeShapes Go.WideShapes Go.ChangeAt Go.RowKit

def total (ds : List (List (List Vc))) : Nat := (ds.map List.length).sum
theorem total_take {ds : List (List (List Vc))} {k : Nat} (h : k < ds.length) : total (ds.take (k + 1)) = total (ds.take k) + ds[k].length := by
  unfold total
  rw [List.take_succ_eq_append_getElem h, List.map_append, List.sum_append]
  simp
theorem total_le : ∀ (ds : List (List (List Vc))) (k : Nat), (∀ i (h : i < ds.length), ds[i].length ≤ 60) → k ≤ ds.length → total (ds.take k) ≤ 60 * k
  | _, 0, _, _ => by simp [total]
  | ds, k + 1, h, hk => by
    rw [total_take (by omega)]
    have := total_le ds k h (by omega)
    have := h k (by omega)
    omega
/-- What is told. -/
def isCount (ts : List Tc) (ds : List (List (List Vc))) (q : Int) : Prop := (¬ dbRight ts ds ∧ q = -1) ∨ (dbRight ts ds ∧ q = (total ds : Int))
theorem isCount_one {ts : List Tc} {ds : List (List (List Vc))} {q r : Int} (h : isCount ts ds q) (k : isCount ts ds r) : q = r := by
  rcases h with ⟨h, rfl⟩ | ⟨h, rfl⟩ <;> rcases k with ⟨k, rfl⟩ | ⟨k, rfl⟩ <;> first | rfl | exact absurd h k | exact absurd k h

set_option maxRecDepth 100000 in
set_option maxHeartbeats 1000000 in
/-- spec.Count -/
theorem count_spec (cv dv : Value) (ts : List Tc) (ds : List (List (List Vc))) (w : World) (hc : TabsV w cv ts) (hd : DataV w dv ds) (hf : fits ts) :
    Calls Try.prog 11 #[.agg #[cv, dv]] w fun e w' => ∃ q : Int, e = .returned (.int .i64 q) ∧ isCount ts ds q ∧ Below w.heap.size w w' := by
  obtain ⟨a, p, rfl, hl, hm⟩ := hc.lit
  obtain ⟨a', p', rfl, hl', hm', _⟩ := hd.lit
  unfold maxLen at hm hm'
  have HC : Hid (TabsV w (.slice a ts.length p) ts) := hc
  have HD : Hid (DataV w (.slice a' ds.length p') ds) := hd
  have HF : Hid (fits ts) := hf
  have HL := Loc.new w #[.slice a ts.length p, .slice a' ds.length p'] 35
  have hbv : Below w.heap.size w (w.alloc (.cells #[.slice a ts.length p, .slice a' ds.length p'] 35)) := (by repeat (first | with_reducible exact Below.refl _ _ | with_reducible assumption | with_reducible refine ch_alloc ?_ _ | with_reducible refine Below.drew ?_ | with_reducible refine below_draws _ ?_ | (with_reducible refine Below.setCell ?_ ?_ _; rotate_left; focus (first | with_reducible exact Nat.le_refl _ | (simp; done) | (simp; omega) | (simp at *; omega))) | with_reducible refine ch_trans ?_ (by with_reducible assumption)))
  clear hc hd hf
  obtain ⟨l0, l1⟩ := HL.two
  go_enter Try.func11, Try.ntmps11
  go_wp2_with fail
  refine (dbOk_spec _ _ ts ds _ (HC.out.on hbv) (HD.out.on hbv) HF.out).mono ?_
  rintro e w2 ⟨q, rfl, hq, b2⟩
  have HQ : Hid (q = true ↔ dbRight ts ds) := hq
  have HL2 := HL.on b2
  have hb2 : Below w.heap.size w w2 := ch_trans hbv b2
  clear b2 HL l0 l1 hbv hq
  obtain ⟨l0, l1⟩ := HL2.two
  cases q
  · have HB : Hid (isCount ts ds (-1)) := Or.inl ⟨fun h => by (have := HQ.out.2 h; cases this), rfl⟩
    clear HQ
    go_wp2
    go_ret
    exact ⟨_, rfl, HB.out, hb2⟩
  have HDR : Hid (dbRight ts ds) := HQ.out.1 (by trivial)
  clear HQ
  have hd6 : ds.length ≤ 6 := by have h1 := HDR.out.2.1; have h2 := HDR.out.1.1; omega
  have H60 : Hid (∀ i (h : i < ds.length), ds[i].length ≤ 60) := fun i h => (HDR.out.2.2 i (by have := HDR.out.2.1; omega) h).1
  go_wp2
  go_loopw [3, 12] (fun n i wr => ∃ k : Nat, k ≤ ds.length ∧ i = .int .i64 k ∧ n = .int .i64 (total (ds.take k) : Nat) ∧ Below w2.heap.size w2 wr) (fun _ i _ => ds.length - (intOf i).toNat)
  case atStart => exact ⟨0, Nat.zero_le _, rfl, rfl, Below.refl _ _⟩
  case round =>
    obtain ⟨k, hk, rfl, rfl, hb⟩ := hrel
    have hbw : Below w.heap.size w wr := ch_trans hb2 hb
    clear l0 l1
    by_cases hlt : k < ds.length
    · have hlti : (k : Int) < ds.length := by omega
      obtain ⟨b, off, c, pc, rfl, d0, hx⟩ := (HD.out.on hbw).rw k hlt
      have hsum := total_le ds k H60.out (by omega)
      have hl60 := H60.out k hlt
      have htk : Hid (total (ds.take (k + 1)) = total (ds.take k) + ds[k].length) := total_take hlt
      have hwr : IntKind.i64.wrap ((total (ds.take k) : Int) + (ds[k].length : Int)) = ((total (ds.take (k + 1)) : Nat) : Int) := by
        rw [htk.out, IntKind.wrap_i64]; omega
      generalize total (ds.take k) = tk at hsum hwr ⊢
      generalize htk1 : total (ds.take (k + 1)) = tk1 at hwr ⊢
      have HTK : Hid (total (ds.take (k + 1)) = tk1) := htk1
      clear htk1
      clear hx htk
      go_wp2
      go_round
      case rel => exact ⟨k + 1, by omega, by go_num, by rw [HTK.out], (by repeat (first | with_reducible exact Below.refl _ _ | with_reducible assumption | with_reducible refine ch_alloc ?_ _ | with_reducible refine Below.drew ?_ | with_reducible refine below_draws _ ?_ | (with_reducible refine Below.setCell ?_ ?_ _; rotate_left; focus (first | with_reducible exact Nat.le_refl _ | (simp; done) | (simp; omega) | (simp at *; omega))) | with_reducible refine ch_trans ?_ (by with_reducible assumption)))⟩
      case measure => simp [intOf]; omega
    · have hlti : (ds.length : Int) ≤ k := by omega
      have HY : Hid (isCount ts ds (total (ds.take k) : Nat)) := Or.inr ⟨HDR.out, by rw [List.take_of_length_le (by omega)]⟩
      go_wp2
      go_ret
      exact ⟨_, rfl, HY.out, hbw⟩

set_option maxRecDepth 100000 in
set_option maxHeartbeats 1000000 in
/-- impl.Count -/
theorem count_impl (cv dv : Value) (ts : List Tc) (ds : List (List (List Vc))) (w : World) (hc : TabsV w cv ts) (hd : DataV w dv ds) (hf : fits ts) :
    Calls Try.prog 12 #[.agg #[cv, dv]] w fun e w' => ∃ q : Int, e = .returned (.int .i64 q) ∧ isCount ts ds q ∧ Below w.heap.size w w' := by
  obtain ⟨a, p, rfl, hl, hm⟩ := hc.lit
  obtain ⟨a', p', rfl, hl', hm', _⟩ := hd.lit
  unfold maxLen at hm hm'
  have HC : Hid (TabsV w (.slice a ts.length p) ts) := hc
  have HD : Hid (DataV w (.slice a' ds.length p') ds) := hd
  have HF : Hid (fits ts) := hf
  have HL := Loc.new w #[.slice a ts.length p, .slice a' ds.length p'] 35
  have hbv : Below w.heap.size w (w.alloc (.cells #[.slice a ts.length p, .slice a' ds.length p'] 35)) := (by repeat (first | with_reducible exact Below.refl _ _ | with_reducible assumption | with_reducible refine ch_alloc ?_ _ | with_reducible refine Below.drew ?_ | with_reducible refine below_draws _ ?_ | (with_reducible refine Below.setCell ?_ ?_ _; rotate_left; focus (first | with_reducible exact Nat.le_refl _ | (simp; done) | (simp; omega) | (simp at *; omega))) | with_reducible refine ch_trans ?_ (by with_reducible assumption)))
  clear hc hd hf
  obtain ⟨l0, l1⟩ := HL.two
  go_enter Try.func12, Try.ntmps12
  go_wp2_with fail
  refine (dbOk_impl _ _ ts ds _ (HC.out.on hbv) (HD.out.on hbv) HF.out).mono ?_
  rintro e w2 ⟨q, rfl, hq, b2⟩
  have HQ : Hid (q = true ↔ dbRight ts ds) := hq
  have HL2 := HL.on b2
  have hb2 : Below w.heap.size w w2 := ch_trans hbv b2
  clear b2 HL l0 l1 hbv hq
  obtain ⟨l0, l1⟩ := HL2.two
  cases q
  · have HB : Hid (isCount ts ds (-1)) := Or.inl ⟨fun h => by (have := HQ.out.2 h; cases this), rfl⟩
    clear HQ
    go_wp2
    go_ret
    exact ⟨_, rfl, HB.out, hb2⟩
  have HDR : Hid (dbRight ts ds) := HQ.out.1 (by trivial)
  clear HQ
  have hd6 : ds.length ≤ 6 := by have h1 := HDR.out.2.1; have h2 := HDR.out.1.1; omega
  have H60 : Hid (∀ i (h : i < ds.length), ds[i].length ≤ 60) := fun i h => (HDR.out.2.2 i (by have := HDR.out.2.1; omega) h).1
  go_wp2
  go_loopw [3, 12] (fun n i wr => ∃ k : Nat, k ≤ ds.length ∧ i = .int .i64 k ∧ n = .int .i64 (total (ds.take k) : Nat) ∧ Below w2.heap.size w2 wr) (fun _ i _ => ds.length - (intOf i).toNat)
  case atStart => exact ⟨0, Nat.zero_le _, rfl, rfl, Below.refl _ _⟩
  case round =>
    obtain ⟨k, hk, rfl, rfl, hb⟩ := hrel
    have hbw : Below w.heap.size w wr := ch_trans hb2 hb
    clear l0 l1
    by_cases hlt : k < ds.length
    · have hlti : (k : Int) < ds.length := by omega
      obtain ⟨b, off, c, pc, rfl, d0, hx⟩ := (HD.out.on hbw).rw k hlt
      have hsum := total_le ds k H60.out (by omega)
      have hl60 := H60.out k hlt
      have htk : Hid (total (ds.take (k + 1)) = total (ds.take k) + ds[k].length) := total_take hlt
      have hwr : IntKind.i64.wrap ((total (ds.take k) : Int) + (ds[k].length : Int)) = ((total (ds.take (k + 1)) : Nat) : Int) := by
        rw [htk.out, IntKind.wrap_i64]; omega
      generalize total (ds.take k) = tk at hsum hwr ⊢
      generalize htk1 : total (ds.take (k + 1)) = tk1 at hwr ⊢
      have HTK : Hid (total (ds.take (k + 1)) = tk1) := htk1
      clear htk1
      clear hx htk
      go_wp2
      go_round
      case rel => exact ⟨k + 1, by omega, by go_num, by rw [HTK.out], (by repeat (first | with_reducible exact Below.refl _ _ | with_reducible assumption | with_reducible refine ch_alloc ?_ _ | with_reducible refine Below.drew ?_ | with_reducible refine below_draws _ ?_ | (with_reducible refine Below.setCell ?_ ?_ _; rotate_left; focus (first | with_reducible exact Nat.le_refl _ | (simp; done) | (simp; omega) | (simp at *; omega))) | with_reducible refine ch_trans ?_ (by with_reducible assumption)))⟩
      case measure => simp [intOf]; omega
    · have hlti : (ds.length : Int) ≤ k := by omega
      have HY : Hid (isCount ts ds (total (ds.take k) : Nat)) := Or.inr ⟨HDR.out, by rw [List.take_of_length_le (by omega)]⟩
      go_wp2
      go_ret
      exact ⟨_, rfl, HY.out, hbw⟩

end Go.Proofs.Ytbpdbhchnpnabal
