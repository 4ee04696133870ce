/- Numbers as bytes, read; the sum: given and landed. -/
import Derived.Test.YtikccmgpmbnkfaaGreatPn
namespace Go.Proofs.YtikccmgpmbnkfaaGreat
open Go.ChangeShapes Go.WideShapes Go.ChangeAt Go.RowKit

/-- The sum of some bytes. -/
def sumL (l : List UInt8) : Nat := l.foldl (fun n c => (257 * n + c.toNat + 1) % 16777213) 1
theorem sumL_snoc (l : List UInt8) (c : UInt8) : sumL (l ++ [c]) = (257 * sumL l + c.toNat + 1) % 16777213 := by simp [sumL]
set_option maxRecDepth 100000 in
set_option maxHeartbeats 400000 in
/-- impl.Sum -/
theorem sum_impl (v : Value) (l : List UInt8) (w : World) (hv : BytesV w v l) :
    Calls Tryz.prog 72 #[v] w fun e w' => e = .returned (.int .i64 (sumL l : Int)) ∧ Below w.heap.size w w' := by
  obtain ⟨a, cap, rfl, hl, hm, hc⟩ := hv
  unfold maxLen at hm
  have HC : Hid (RowAt w a 1 (l.map byX)) := hc
  clear hc
  go_enter Tryz.func72, Tryz.ntmps72
  go_wp2
  go_loopw [3, 8] (fun q i wr => ∃ k S : Nat, k ≤ l.length ∧ i = .int .i64 (k : Int) ∧ q = .int .i64 (S : Int) ∧ S < 16777213 ∧ Hid (S = sumL (l.take k)) ∧ Below w.heap.size w wr) (fun _ i _ => l.length - (intOf i).toNat)
  case atStart => exact ⟨0, 1, Nat.zero_le _, rfl, rfl, by omega, rfl, (by repeat (first | with_reducible exact Below.refl _ _ | with_reducible assumption | with_reducible refine ch_alloc ?_ _ | with_reducible refine Below.drew ?_ | with_reducible refine below_draws _ ?_ | (with_reducible refine Below.setCell ?_ ?_ _; rotate_left; focus (first | with_reducible exact Nat.le_refl _ | (simp; done) | (simp; omega) | (simp at *; omega))) | with_reducible refine ch_trans ?_ (by with_reducible assumption)))⟩
  case round =>
    obtain ⟨k, S, hk, rfl, rfl, hS, HS, hb⟩ := hrel
    by_cases hlt : k < l.length
    · have hlti : (k : Int) < l.length := by omega
      obtain ⟨b, off, rfl, c0⟩ := (HC.out.on hb).bytes k hlt
      have hc255 : l[k].toNat < 256 := l[k].toNat_lt
      have HN : Hid ((257 * S + l[k].toNat + 1) % 16777213 = sumL (l.take (k + 1))) := by
        show _ = _
        rw [List.take_succ_eq_append_getElem hlt, sumL_snoc, ← HS.out]
      generalize l[k].toNat = C at c0 hc255 HN
      go_wp2
      go_round
      case rel => exact ⟨k + 1, (257 * S + C + 1) % 16777213, by omega, by go_num, by go_num, Nat.mod_lt _ (by omega), HN, (by repeat (first | with_reducible exact Below.refl _ _ | with_reducible assumption | with_reducible refine ch_alloc ?_ _ | with_reducible refine Below.drew ?_ | with_reducible refine below_draws _ ?_ | (with_reducible refine Below.setCell ?_ ?_ _; rotate_left; focus (first | with_reducible exact Nat.le_refl _ | (simp; done) | (simp; omega) | (simp at *; omega))) | with_reducible refine ch_trans ?_ (by with_reducible assumption)))⟩
      case measure => simp [intOf]; omega
    · have hlti : (l.length : Int) ≤ k := by omega
      have HE : Hid (sumL l = S) := by
        have := HS.out
        rw [List.take_of_length_le (by omega)] at this
        exact this.symm
      go_wp2
      go_ret
      exact ⟨by rw [HE.out]; rfl, (by repeat (first | with_reducible exact Below.refl _ _ | with_reducible assumption | with_reducible refine ch_alloc ?_ _ | with_reducible refine Below.drew ?_ | with_reducible refine below_draws _ ?_ | (with_reducible refine Below.setCell ?_ ?_ _; rotate_left; focus (first | with_reducible exact Nat.le_refl _ | (simp; done) | (simp; omega) | (simp at *; omega))) | with_reducible refine ch_trans ?_ (by with_reducible assumption)))⟩
set_option maxRecDepth 100000 in
set_option maxHeartbeats 400000 in
/-- spec.Sum -/
theorem sum_spec (v : Value) (l : List UInt8) (w : World) (hv : BytesV w v l) :
    Calls Tryz.prog 33 #[v] w fun e w' => e = .returned (.int .i64 (sumL l : Int)) ∧ Below w.heap.size w w' := by
  obtain ⟨a, cap, rfl, hl, hm, hc⟩ := hv
  unfold maxLen at hm
  have HC : Hid (RowAt w a 1 (l.map byX)) := hc
  clear hc
  go_enter Tryz.func33, Tryz.ntmps33
  go_wp2
  go_loopw [3, 8] (fun q i wr => ∃ k S : Nat, k ≤ l.length ∧ i = .int .i64 (k : Int) ∧ q = .int .i64 (S : Int) ∧ S < 16777213 ∧ Hid (S = sumL (l.take k)) ∧ Below w.heap.size w wr) (fun _ i _ => l.length - (intOf i).toNat)
  case atStart => exact ⟨0, 1, Nat.zero_le _, rfl, rfl, by omega, rfl, (by repeat (first | with_reducible exact Below.refl _ _ | with_reducible assumption | with_reducible refine ch_alloc ?_ _ | with_reducible refine Below.drew ?_ | with_reducible refine below_draws _ ?_ | (with_reducible refine Below.setCell ?_ ?_ _; rotate_left; focus (first | with_reducible exact Nat.le_refl _ | (simp; done) | (simp; omega) | (simp at *; omega))) | with_reducible refine ch_trans ?_ (by with_reducible assumption)))⟩
  case round =>
    obtain ⟨k, S, hk, rfl, rfl, hS, HS, hb⟩ := hrel
    by_cases hlt : k < l.length
    · have hlti : (k : Int) < l.length := by omega
      obtain ⟨b, off, rfl, c0⟩ := (HC.out.on hb).bytes k hlt
      have hc255 : l[k].toNat < 256 := l[k].toNat_lt
      have HN : Hid ((257 * S + l[k].toNat + 1) % 16777213 = sumL (l.take (k + 1))) := by
        show _ = _
        rw [List.take_succ_eq_append_getElem hlt, sumL_snoc, ← HS.out]
      generalize l[k].toNat = C at c0 hc255 HN
      go_wp2
      go_round
      case rel => exact ⟨k + 1, (257 * S + C + 1) % 16777213, by omega, by go_num, by go_num, Nat.mod_lt _ (by omega), HN, (by repeat (first | with_reducible exact Below.refl _ _ | with_reducible assumption | with_reducible refine ch_alloc ?_ _ | with_reducible refine Below.drew ?_ | with_reducible refine below_draws _ ?_ | (with_reducible refine Below.setCell ?_ ?_ _; rotate_left; focus (first | with_reducible exact Nat.le_refl _ | (simp; done) | (simp; omega) | (simp at *; omega))) | with_reducible refine ch_trans ?_ (by with_reducible assumption)))⟩
      case measure => simp [intOf]; omega
    · have hlti : (l.length : Int) ≤ k := by omega
      have HE : Hid (sumL l = S) := by
        have := HS.out
        rw [List.take_of_length_le (by omega)] at this
        exact this.symm
      go_wp2
      go_ret
      exact ⟨by rw [HE.out]; rfl, (by repeat (first | with_reducible exact Below.refl _ _ | with_reducible assumption | with_reducible refine ch_alloc ?_ _ | with_reducible refine Below.drew ?_ | with_reducible refine below_draws _ ?_ | (with_reducible refine Below.setCell ?_ ?_ _; rotate_left; focus (first | with_reducible exact Nat.le_refl _ | (simp; done) | (simp; omega) | (simp at *; omega))) | with_reducible refine ch_trans ?_ (by with_reducible assumption)))⟩

/-- The number that some bytes are, behind n. -/
def getF (n : Nat) (l : List UInt8) : Nat := l.foldl (fun n c => n * 256 + c.toNat) n
def getL (l : List UInt8) (a s : Nat) : Nat := getF 0 ((l.drop a).take s)
theorem getF_lt : ∀ (l : List UInt8) (n : Nat), getF n l < (n + 1) * 256 ^ l.length
  | [], n => by simp [getF]
  | c :: r, n => by
    have h := getF_lt r (n * 256 + c.toNat)
    have hc : c.toNat < 256 := c.toNat_lt
    have e : getF n (c :: r) = getF (n * 256 + c.toNat) r := rfl
    rw [e, List.length_cons, Nat.pow_succ]
    refine Nat.lt_of_lt_of_le h ?_
    have : (n * 256 + c.toNat + 1) * 256 ^ r.length ≤ ((n + 1) * 256) * 256 ^ r.length := Nat.mul_le_mul_right _ (by omega)
    refine Nat.le_trans this (Nat.le_of_eq ?_)
    rw [Nat.mul_assoc, Nat.mul_comm 256]
theorem getF_snoc (l : List UInt8) (n : Nat) (c : UInt8) : getF n (l ++ [c]) = getF n l * 256 + c.toNat := by simp [getF]
def okGet (l : List UInt8) (a s : Int) : Prop := 1 ≤ s ∧ s ≤ 6 ∧ 0 ≤ a ∧ a ≤ l.length - s
theorem get_step {l : List UInt8} {a k : Nat} (h : a + k < l.length) : getF 0 ((l.drop a).take (k + 1)) = getF 0 ((l.drop a).take k) * 256 + (l[a + k]).toNat := by
  have h1 : k < (l.drop a).length := by simp; omega
  rw [List.take_succ_eq_append_getElem h1, getF_snoc, List.getElem_drop]
theorem get_lt {l : List UInt8} {a k : Nat} (hk : k ≤ 5) : getF 0 ((l.drop a).take k) < 1099511627776 := by
  have h := getF_lt ((l.drop a).take k) 0
  have h1 : ((l.drop a).take k).length ≤ k := by simp; omega
  have h2 : 256 ^ ((l.drop a).take k).length ≤ 256 ^ 5 := Nat.pow_le_pow_right (by omega) (by omega)
  have h3 : (256 : Nat) ^ 5 = 1099511627776 := by decide
  omega
set_option maxRecDepth 100000 in
set_option maxHeartbeats 1000000 in
/-- spec.GetNum -/
theorem getNum_spec (v : Value) (l : List UInt8) (x s : Int) (w : World) (hv : BytesV w v l) (hx63 : -9223372036854775808 ≤ x ∧ x ≤ 9223372036854775807) (hs63 : -9223372036854775808 ≤ s ∧ s ≤ 9223372036854775807) (q : Bool) (N : Nat) (hq : (q = true ∧ okGet l x s ∧ N = getL l x.toNat s.toNat) ∨ (q = false ∧ ¬ okGet l x s ∧ N = 0)) :
    Calls Tryz.prog 77 #[v, .int .i64 x, .int .i64 s] w fun e w' => e = .returned (.tuple #[.int .i64 (N : Int), .bool q]) ∧ Below w.heap.size w w' := by
  obtain ⟨a, cap, rfl, hl, hm, hc⟩ := hv
  unfold maxLen at hm
  have HC : Hid (RowAt w a 1 (l.map byX)) := hc
  clear hc
  by_cases hok : okGet l x s
  · obtain ⟨rfl, rfl⟩ : q = true ∧ N = getL l x.toNat s.toNat := by
      rcases hq with ⟨h, _, h'⟩ | ⟨_, h, _⟩
      · exact ⟨h, h'⟩
      · exact absurd hok h
    clear hq
    obtain ⟨h1, h2, h3, h4⟩ := hok
    obtain ⟨z, rfl⟩ : ∃ z : Nat, s = (z : Int) := ⟨s.toNat, by omega⟩
    obtain ⟨y, rfl⟩ : ∃ y : Nat, x = (y : Int) := ⟨x.toNat, by omega⟩
    have hyz : y + z ≤ l.length := by omega
    go_enter Tryz.func77, Tryz.ntmps77
    go_wp2
    go_loopw [8, 9] (fun n i wr => ∃ k S : Nat, k ≤ z ∧ i = .int .i64 (k : Int) ∧ n = .int .i64 (S : Int) ∧ Hid (S = getF 0 ((l.drop y).take k)) ∧ Below w.heap.size w wr) (fun _ i _ => z - (intOf i).toNat)
    case atStart => exact ⟨0, 0, Nat.zero_le _, rfl, rfl, rfl, (by repeat (first | with_reducible exact Below.refl _ _ | with_reducible assumption | with_reducible refine ch_alloc ?_ _ | with_reducible refine Below.drew ?_ | with_reducible refine below_draws _ ?_ | (with_reducible refine Below.setCell ?_ ?_ _; rotate_left; focus (first | with_reducible exact Nat.le_refl _ | (simp; done) | (simp; omega) | (simp at *; omega))) | with_reducible refine ch_trans ?_ (by with_reducible assumption)))⟩
    case round =>
      obtain ⟨k, S, hk, rfl, rfl, HS, hb⟩ := hrel
      by_cases hlt : k < z
      · have hlti : (k : Int) < z := by omega
        have hyk : y + k < l.length := by omega
        obtain ⟨b, off, rfl, c0⟩ := (HC.out.on hb).bytes (y + k) hyk
        have hSlt : S < 1099511627776 := by rw [HS.out]; exact get_lt (by omega)
        have hc255 : l[y + k].toNat < 256 := l[y + k].toNat_lt
        have HN : Hid (S * 256 + l[y + k].toNat = getF 0 ((l.drop y).take (k + 1))) := by
          show _ = _
          rw [get_step hyk, ← HS.out]
        generalize l[y + k].toNat = C at c0 hc255 HN
        go_wp2
        go_round
        case rel => exact ⟨k + 1, S * 256 + C, by omega, by go_num, by go_num, HN, (by repeat (first | with_reducible exact Below.refl _ _ | with_reducible assumption | with_reducible refine ch_alloc ?_ _ | with_reducible refine Below.drew ?_ | with_reducible refine below_draws _ ?_ | (with_reducible refine Below.setCell ?_ ?_ _; rotate_left; focus (first | with_reducible exact Nat.le_refl _ | (simp; done) | (simp; omega) | (simp at *; omega))) | with_reducible refine ch_trans ?_ (by with_reducible assumption)))⟩
        case measure => simp [intOf]; omega
      · have hlti : (z : Int) ≤ k := by omega
        obtain rfl : k = z := by omega
        have HE : Hid (((getL l ((y : Int)).toNat ((k : Int)).toNat : Nat) : Int) = (S : Int)) := by show _ = _; rw [HS.out]; rfl
        go_wp2
        go_ret2
        exact ⟨by rw [HE.out]; rfl, (by repeat (first | with_reducible exact Below.refl _ _ | with_reducible assumption | with_reducible refine ch_alloc ?_ _ | with_reducible refine Below.drew ?_ | with_reducible refine below_draws _ ?_ | (with_reducible refine Below.setCell ?_ ?_ _; rotate_left; focus (first | with_reducible exact Nat.le_refl _ | (simp; done) | (simp; omega) | (simp at *; omega))) | with_reducible refine ch_trans ?_ (by with_reducible assumption)))⟩
  · obtain ⟨rfl, rfl⟩ : q = false ∧ N = 0 := by
      rcases hq with ⟨_, h, _⟩ | ⟨h, _, h'⟩
      · exact absurd h hok
      · exact ⟨h, h'⟩
    clear hq
    by_cases h1 : s < 1
    · go_enter Tryz.func77, Tryz.ntmps77
      go_wp2
      go_ret2
      exact ⟨rfl, (by repeat (first | with_reducible exact Below.refl _ _ | with_reducible assumption | with_reducible refine ch_alloc ?_ _ | with_reducible refine Below.drew ?_ | with_reducible refine below_draws _ ?_ | (with_reducible refine Below.setCell ?_ ?_ _; rotate_left; focus (first | with_reducible exact Nat.le_refl _ | (simp; done) | (simp; omega) | (simp at *; omega))) | with_reducible refine ch_trans ?_ (by with_reducible assumption)))⟩
    by_cases h2 : 6 < s
    · go_enter Tryz.func77, Tryz.ntmps77
      go_wp2
      go_ret2
      exact ⟨rfl, (by repeat (first | with_reducible exact Below.refl _ _ | with_reducible assumption | with_reducible refine ch_alloc ?_ _ | with_reducible refine Below.drew ?_ | with_reducible refine below_draws _ ?_ | (with_reducible refine Below.setCell ?_ ?_ _; rotate_left; focus (first | with_reducible exact Nat.le_refl _ | (simp; done) | (simp; omega) | (simp at *; omega))) | with_reducible refine ch_trans ?_ (by with_reducible assumption)))⟩
    by_cases h3 : x < 0
    · go_enter Tryz.func77, Tryz.ntmps77
      go_wp2
      go_ret2
      exact ⟨rfl, (by repeat (first | with_reducible exact Below.refl _ _ | with_reducible assumption | with_reducible refine ch_alloc ?_ _ | with_reducible refine Below.drew ?_ | with_reducible refine below_draws _ ?_ | (with_reducible refine Below.setCell ?_ ?_ _; rotate_left; focus (first | with_reducible exact Nat.le_refl _ | (simp; done) | (simp; omega) | (simp at *; omega))) | with_reducible refine ch_trans ?_ (by with_reducible assumption)))⟩
    have h4 : (l.length : Int) - s < x := by
      unfold okGet at hok
      omega
    clear hok
    go_enter Tryz.func77, Tryz.ntmps77
    go_wp2
    go_ret2
    exact ⟨rfl, (by repeat (first | with_reducible exact Below.refl _ _ | with_reducible assumption | with_reducible refine ch_alloc ?_ _ | with_reducible refine Below.drew ?_ | with_reducible refine below_draws _ ?_ | (with_reducible refine Below.setCell ?_ ?_ _; rotate_left; focus (first | with_reducible exact Nat.le_refl _ | (simp; done) | (simp; omega) | (simp at *; omega))) | with_reducible refine ch_trans ?_ (by with_reducible assumption)))⟩
set_option maxRecDepth 100000 in
set_option maxHeartbeats 1000000 in
/-- impl.GetNum -/
theorem getNum_impl (v : Value) (l : List UInt8) (x s : Int) (w : World) (hv : BytesV w v l) (q : Bool) (N : Nat) (hq : (q = true ∧ okGet l x s ∧ N = getL l x.toNat s.toNat) ∨ (q = false ∧ ¬ okGet l x s ∧ N = 0)) :
    Calls Tryz.prog 111 #[v, .int .i64 x, .int .i64 s] w fun e w' => e = .returned (.tuple #[.int .i64 (N : Int), .bool q]) ∧ Below w.heap.size w w' := by
  obtain ⟨a, cap, rfl, hl, hm, hc⟩ := hv
  unfold maxLen at hm
  have HC : Hid (RowAt w a 1 (l.map byX)) := hc
  clear hc
  by_cases hs : 1 ≤ s ∧ s ≤ 6
  · have HS : Hid (∀ u : World, Calls Tryz.prog 136 #[.int .i64 s] u fun e w' => e = .returned (.bool true) ∧ Below u.heap.size u w') := fun u => by
      have := sizeOk_any s u
      rwa [show (decide (1 ≤ s) && decide (s ≤ 6)) = true by simp; omega] at this
    by_cases hok : okGet l x s
    · obtain ⟨rfl, rfl⟩ : q = true ∧ N = getL l x.toNat s.toNat := by
        rcases hq with ⟨h, _, h'⟩ | ⟨_, h, _⟩
        · exact ⟨h, h'⟩
        · exact absurd hok h
      clear hq
      obtain ⟨h1, h2, h3, h4⟩ := hok
      obtain ⟨z, rfl⟩ : ∃ z : Nat, s = (z : Int) := ⟨s.toNat, by omega⟩
      obtain ⟨y, rfl⟩ : ∃ y : Nat, x = (y : Int) := ⟨x.toNat, by omega⟩
      have hyz : y + z ≤ l.length := by omega
      obtain ⟨b, off, rfl, _⟩ := HC.out.bytes 0 (by omega)
      go_enter Tryz.func111, Tryz.ntmps111
      go_wp2_with (go_at_call 136; refine (HS.out _).mono ?_; rintro e w1 ⟨rfl, b1⟩)
      go_loopw [8, 33] (fun n i wr => ∃ k S : Nat, k ≤ z ∧ i = .int .i64 (k : Int) ∧ n = .int .i64 (S : Int) ∧ Hid (S = getF 0 ((l.drop y).take k)) ∧ Below w.heap.size w wr) (fun _ i _ => z - (intOf i).toNat)
      case atStart => exact ⟨0, 0, Nat.zero_le _, rfl, rfl, rfl, (by repeat (first | with_reducible exact Below.refl _ _ | with_reducible assumption | with_reducible refine ch_alloc ?_ _ | with_reducible refine Below.drew ?_ | with_reducible refine below_draws _ ?_ | (with_reducible refine Below.setCell ?_ ?_ _; rotate_left; focus (first | with_reducible exact Nat.le_refl _ | (simp; done) | (simp; omega) | (simp at *; omega))) | with_reducible refine ch_trans ?_ (by with_reducible assumption)))⟩
      case round =>
        obtain ⟨k, S, hk, rfl, rfl, HV, hb⟩ := hrel
        by_cases hlt : k < z
        · have hlti : (k : Int) < z := by omega
          have hyk : y + k < l.length := by omega
          obtain ⟨b', off', hbo, c0⟩ := (HC.out.on hb).bytes (y + k) hyk
          cases hbo
          have hSlt : S < 1099511627776 := by rw [HV.out]; exact get_lt (by omega)
          have hc255 : l[y + k].toNat < 256 := l[y + k].toNat_lt
          have HN : Hid (S * 256 + l[y + k].toNat = getF 0 ((l.drop y).take (k + 1))) := by
            show _ = _
            rw [get_step hyk, ← HV.out]
          generalize l[y + k].toNat = C at c0 hc255 HN
          rw [← Nat.add_assoc] at c0
          go_wp2
          go_round
          case rel => exact ⟨k + 1, S * 256 + C, by omega, by go_num, by go_num, HN, (by repeat (first | with_reducible exact Below.refl _ _ | with_reducible assumption | with_reducible refine ch_alloc ?_ _ | with_reducible refine Below.drew ?_ | with_reducible refine below_draws _ ?_ | (with_reducible refine Below.setCell ?_ ?_ _; rotate_left; focus (first | with_reducible exact Nat.le_refl _ | (simp; done) | (simp; omega) | (simp at *; omega))) | with_reducible refine ch_trans ?_ (by with_reducible assumption)))⟩
          case measure => simp [intOf]; omega
        · have hlti : (z : Int) ≤ k := by omega
          obtain rfl : k = z := by omega
          have HE : Hid (((getL l ((y : Int)).toNat ((k : Int)).toNat : Nat) : Int) = (S : Int)) := by show _ = _; rw [HV.out]; rfl
          go_wp2
          go_ret2
          exact ⟨by rw [HE.out]; rfl, (by repeat (first | with_reducible exact Below.refl _ _ | with_reducible assumption | with_reducible refine ch_alloc ?_ _ | with_reducible refine Below.drew ?_ | with_reducible refine below_draws _ ?_ | (with_reducible refine Below.setCell ?_ ?_ _; rotate_left; focus (first | with_reducible exact Nat.le_refl _ | (simp; done) | (simp; omega) | (simp at *; omega))) | with_reducible refine ch_trans ?_ (by with_reducible assumption)))⟩
    · obtain ⟨rfl, rfl⟩ : q = false ∧ N = 0 := by
        rcases hq with ⟨_, h, _⟩ | ⟨h, _, h'⟩
        · exact absurd h hok
        · exact ⟨h, h'⟩
      clear hq
      by_cases h3 : x < 0
      · go_enter Tryz.func111, Tryz.ntmps111
        go_wp2_with (go_at_call 136; refine (HS.out _).mono ?_; rintro e w1 ⟨rfl, b1⟩)
        go_ret2
        exact ⟨rfl, (by repeat (first | with_reducible exact Below.refl _ _ | with_reducible assumption | with_reducible refine ch_alloc ?_ _ | with_reducible refine Below.drew ?_ | with_reducible refine below_draws _ ?_ | (with_reducible refine Below.setCell ?_ ?_ _; rotate_left; focus (first | with_reducible exact Nat.le_refl _ | (simp; done) | (simp; omega) | (simp at *; omega))) | with_reducible refine ch_trans ?_ (by with_reducible assumption)))⟩
      have h4 : (l.length : Int) - s < x := by
        unfold okGet at hok
        omega
      clear hok
      go_enter Tryz.func111, Tryz.ntmps111
      go_wp2_with (go_at_call 136; refine (HS.out _).mono ?_; rintro e w1 ⟨rfl, b1⟩)
      go_ret2
      exact ⟨rfl, (by repeat (first | with_reducible exact Below.refl _ _ | with_reducible assumption | with_reducible refine ch_alloc ?_ _ | with_reducible refine Below.drew ?_ | with_reducible refine below_draws _ ?_ | (with_reducible refine Below.setCell ?_ ?_ _; rotate_left; focus (first | with_reducible exact Nat.le_refl _ | (simp; done) | (simp; omega) | (simp at *; omega))) | with_reducible refine ch_trans ?_ (by with_reducible assumption)))⟩
  · have HS : Hid (∀ u : World, Calls Tryz.prog 136 #[.int .i64 s] u fun e w' => e = .returned (.bool false) ∧ Below u.heap.size u w') := fun u => by
      have := sizeOk_any s u
      rwa [show (decide (1 ≤ s) && decide (s ≤ 6)) = false by simp; omega] at this
    obtain ⟨rfl, rfl⟩ : q = false ∧ N = 0 := by
      rcases hq with ⟨_, h, _⟩ | ⟨h, _, h'⟩
      · exact absurd ⟨h.1, h.2.1⟩ hs
      · exact ⟨h, h'⟩
    clear hq
    go_enter Tryz.func111, Tryz.ntmps111
    go_wp2_with (go_at_call 136; refine (HS.out _).mono ?_; rintro e w1 ⟨rfl, b1⟩)
    go_ret2
    exact ⟨rfl, (by repeat (first | with_reducible exact Below.refl _ _ | with_reducible assumption | with_reducible refine ch_alloc ?_ _ | with_reducible refine Below.drew ?_ | with_reducible refine below_draws _ ?_ | (with_reducible refine Below.setCell ?_ ?_ _; rotate_left; focus (first | with_reducible exact Nat.le_refl _ | (simp; done) | (simp; omega) | (simp at *; omega))) | with_reducible refine ch_trans ?_ (by with_reducible assumption)))⟩
end Go.Proofs.YtikccmgpmbnkfaaGreat
