/- Numbers as bytes, read; the sum: given and landed. A region that draws its order, walked in ONE order of our choice: operations that only look are taken as soon as they may come up; a call comes up alone. A drawn region walked in one order, where the worlds may follow one another by any relation (Ord has it for grown worlds alone). The given writer of statements: texts, flags, changes. Values read from bytes, plainly: what a reader that takes bytes off the front reads. -/
import Derived.Test.YtiijahoheajppaaGreatCt
import Derived.Test.YtiijahoheajppaaGreatWx
import Derived.Test.YtiijahoheajppaaGreatSt
namespace Go.Proofs.YtiijahoheajppaaGreat
open Go.ChangeShapes Go.WideShapes Go.ChangeAt Go.RowKit

/-- The sum of some bytes. -/
def sumL (l : List UInt8) : Nat := l.foldl (fun n c => (257 * n + c.toNat + 1) % 16777213) 1
theorem sumL_snoc (l : List UInt8) (c : UInt8) : sumL (l ++ [c]) = (257 * sumL l + c.toNat + 1) % 16777213 := by simp [sumL]
set_option maxRecDepth 100000 in
set_option maxHeartbeats 400000 in
/-- impl.Sum -/
theorem sum_impl (v : Value) (l : List UInt8) (w : World) (hv : BytesV w v l) :
    Calls Tryz.prog 72 #[v] w fun e w' => e = .returned (.int .i64 (sumL l : Int)) ∧ Below w.heap.size w w' := by
  obtain ⟨a, cap, rfl, hl, hm, hc⟩ := hv
  unfold maxLen at hm
  have HC : Hid (RowAt w a 1 (l.map byX)) := hc
  clear hc
  go_enter Tryz.func72, Tryz.ntmps72
  go_wp2
  go_loopw [3, 8] (fun q i wr => ∃ k S : Nat, k ≤ l.length ∧ i = .int .i64 (k : Int) ∧ q = .int .i64 (S : Int) ∧ S < 16777213 ∧ Hid (S = sumL (l.take k)) ∧ Below w.heap.size w wr) (fun _ i _ => l.length - (intOf i).toNat)
  case atStart => exact ⟨0, 1, Nat.zero_le _, rfl, rfl, by omega, rfl, (by repeat (first | with_reducible exact Below.refl _ _ | with_reducible assumption | with_reducible refine ch_alloc ?_ _ | with_reducible refine Below.drew ?_ | with_reducible refine below_draws _ ?_ | (with_reducible refine Below.setCell ?_ ?_ _; rotate_left; focus (first | with_reducible exact Nat.le_refl _ | (simp; done) | (simp; omega) | (simp at *; omega))) | with_reducible refine ch_trans ?_ (by with_reducible assumption)))⟩
  case round =>
    obtain ⟨k, S, hk, rfl, rfl, hS, HS, hb⟩ := hrel
    by_cases hlt : k < l.length
    · have hlti : (k : Int) < l.length := by omega
      obtain ⟨b, off, rfl, c0⟩ := (HC.out.on hb).bytes k hlt
      have hc255 : l[k].toNat < 256 := l[k].toNat_lt
      have HN : Hid ((257 * S + l[k].toNat + 1) % 16777213 = sumL (l.take (k + 1))) := by
        show _ = _
        rw [List.take_succ_eq_append_getElem hlt, sumL_snoc, ← HS.out]
      generalize l[k].toNat = C at c0 hc255 HN
      go_wp2
      go_round
      case rel => exact ⟨k + 1, (257 * S + C + 1) % 16777213, by omega, by go_num, by go_num, Nat.mod_lt _ (by omega), HN, (by repeat (first | with_reducible exact Below.refl _ _ | with_reducible assumption | with_reducible refine ch_alloc ?_ _ | with_reducible refine Below.drew ?_ | with_reducible refine below_draws _ ?_ | (with_reducible refine Below.setCell ?_ ?_ _; rotate_left; focus (first | with_reducible exact Nat.le_refl _ | (simp; done) | (simp; omega) | (simp at *; omega))) | with_reducible refine ch_trans ?_ (by with_reducible assumption)))⟩
      case measure => simp [intOf]; omega
    · have hlti : (l.length : Int) ≤ k := by omega
      have HE : Hid (sumL l = S) := by
        have := HS.out
        rw [List.take_of_length_le (by omega)] at this
        exact this.symm
      go_wp2
      go_ret
      exact ⟨by rw [HE.out]; rfl, (by repeat (first | with_reducible exact Below.refl _ _ | with_reducible assumption | with_reducible refine ch_alloc ?_ _ | with_reducible refine Below.drew ?_ | with_reducible refine below_draws _ ?_ | (with_reducible refine Below.setCell ?_ ?_ _; rotate_left; focus (first | with_reducible exact Nat.le_refl _ | (simp; done) | (simp; omega) | (simp at *; omega))) | with_reducible refine ch_trans ?_ (by with_reducible assumption)))⟩
set_option maxRecDepth 100000 in
set_option maxHeartbeats 400000 in
/-- spec.Sum -/
theorem sum_spec (v : Value) (l : List UInt8) (w : World) (hv : BytesV w v l) :
    Calls Tryz.prog 33 #[v] w fun e w' => e = .returned (.int .i64 (sumL l : Int)) ∧ Below w.heap.size w w' := by
  obtain ⟨a, cap, rfl, hl, hm, hc⟩ := hv
  unfold maxLen at hm
  have HC : Hid (RowAt w a 1 (l.map byX)) := hc
  clear hc
  go_enter Tryz.func33, Tryz.ntmps33
  go_wp2
  go_loopw [3, 8] (fun q i wr => ∃ k S : Nat, k ≤ l.length ∧ i = .int .i64 (k : Int) ∧ q = .int .i64 (S : Int) ∧ S < 16777213 ∧ Hid (S = sumL (l.take k)) ∧ Below w.heap.size w wr) (fun _ i _ => l.length - (intOf i).toNat)
  case atStart => exact ⟨0, 1, Nat.zero_le _, rfl, rfl, by omega, rfl, (by repeat (first | with_reducible exact Below.refl _ _ | with_reducible assumption | with_reducible refine ch_alloc ?_ _ | with_reducible refine Below.drew ?_ | with_reducible refine below_draws _ ?_ | (with_reducible refine Below.setCell ?_ ?_ _; rotate_left; focus (first | with_reducible exact Nat.le_refl _ | (simp; done) | (simp; omega) | (simp at *; omega))) | with_reducible refine ch_trans ?_ (by with_reducible assumption)))⟩
  case round =>
    obtain ⟨k, S, hk, rfl, rfl, hS, HS, hb⟩ := hrel
    by_cases hlt : k < l.length
    · have hlti : (k : Int) < l.length := by omega
      obtain ⟨b, off, rfl, c0⟩ := (HC.out.on hb).bytes k hlt
      have hc255 : l[k].toNat < 256 := l[k].toNat_lt
      have HN : Hid ((257 * S + l[k].toNat + 1) % 16777213 = sumL (l.take (k + 1))) := by
        show _ = _
        rw [List.take_succ_eq_append_getElem hlt, sumL_snoc, ← HS.out]
      generalize l[k].toNat = C at c0 hc255 HN
      go_wp2
      go_round
      case rel => exact ⟨k + 1, (257 * S + C + 1) % 16777213, by omega, by go_num, by go_num, Nat.mod_lt _ (by omega), HN, (by repeat (first | with_reducible exact Below.refl _ _ | with_reducible assumption | with_reducible refine ch_alloc ?_ _ | with_reducible refine Below.drew ?_ | with_reducible refine below_draws _ ?_ | (with_reducible refine Below.setCell ?_ ?_ _; rotate_left; focus (first | with_reducible exact Nat.le_refl _ | (simp; done) | (simp; omega) | (simp at *; omega))) | with_reducible refine ch_trans ?_ (by with_reducible assumption)))⟩
      case measure => simp [intOf]; omega
    · have hlti : (l.length : Int) ≤ k := by omega
      have HE : Hid (sumL l = S) := by
        have := HS.out
        rw [List.take_of_length_le (by omega)] at this
        exact this.symm
      go_wp2
      go_ret
      exact ⟨by rw [HE.out]; rfl, (by repeat (first | with_reducible exact Below.refl _ _ | with_reducible assumption | with_reducible refine ch_alloc ?_ _ | with_reducible refine Below.drew ?_ | with_reducible refine below_draws _ ?_ | (with_reducible refine Below.setCell ?_ ?_ _; rotate_left; focus (first | with_reducible exact Nat.le_refl _ | (simp; done) | (simp; omega) | (simp at *; omega))) | with_reducible refine ch_trans ?_ (by with_reducible assumption)))⟩

/-- The number that some bytes are, behind n. -/
def getF (n : Nat) (l : List UInt8) : Nat := l.foldl (fun n c => n * 256 + c.toNat) n
def getL (l : List UInt8) (a s : Nat) : Nat := getF 0 ((l.drop a).take s)
theorem getF_lt : ∀ (l : List UInt8) (n : Nat), getF n l < (n + 1) * 256 ^ l.length
  | [], n => by simp [getF]
  | c :: r, n => by
    have h := getF_lt r (n * 256 + c.toNat)
    have hc : c.toNat < 256 := c.toNat_lt
    have e : getF n (c :: r) = getF (n * 256 + c.toNat) r := rfl
    rw [e, List.length_cons, Nat.pow_succ]
    refine Nat.lt_of_lt_of_le h ?_
    have : (n * 256 + c.toNat + 1) * 256 ^ r.length ≤ ((n + 1) * 256) * 256 ^ r.length := Nat.mul_le_mul_right _ (by omega)
    refine Nat.le_trans this (Nat.le_of_eq ?_)
    rw [Nat.mul_assoc, Nat.mul_comm 256]
theorem getF_snoc (l : List UInt8) (n : Nat) (c : UInt8) : getF n (l ++ [c]) = getF n l * 256 + c.toNat := by simp [getF]
def okGet (l : List UInt8) (a s : Int) : Prop := 1 ≤ s ∧ s ≤ 6 ∧ 0 ≤ a ∧ a ≤ l.length - s
theorem get_step {l : List UInt8} {a k : Nat} (h : a + k < l.length) : getF 0 ((l.drop a).take (k + 1)) = getF 0 ((l.drop a).take k) * 256 + (l[a + k]).toNat := by
  have h1 : k < (l.drop a).length := by simp; omega
  rw [List.take_succ_eq_append_getElem h1, getF_snoc, List.getElem_drop]
theorem get_lt {l : List UInt8} {a k : Nat} (hk : k ≤ 5) : getF 0 ((l.drop a).take k) < 1099511627776 := by
  have h := getF_lt ((l.drop a).take k) 0
  have h1 : ((l.drop a).take k).length ≤ k := by simp; omega
  have h2 : 256 ^ ((l.drop a).take k).length ≤ 256 ^ 5 := Nat.pow_le_pow_right (by omega) (by omega)
  have h3 : (256 : Nat) ^ 5 = 1099511627776 := by decide
  omega
set_option maxRecDepth 100000 in
set_option maxHeartbeats 1000000 in
/-- spec.GetNum -/
theorem getNum_spec (v : Value) (l : List UInt8) (x s : Int) (w : World) (hv : BytesV w v l) (hx63 : -9223372036854775808 ≤ x ∧ x ≤ 9223372036854775807) (hs63 : -9223372036854775808 ≤ s ∧ s ≤ 9223372036854775807) (q : Bool) (N : Nat) (hq : (q = true ∧ okGet l x s ∧ N = getL l x.toNat s.toNat) ∨ (q = false ∧ ¬ okGet l x s ∧ N = 0)) :
    Calls Tryz.prog 77 #[v, .int .i64 x, .int .i64 s] w fun e w' => e = .returned (.tuple #[.int .i64 (N : Int), .bool q]) ∧ Below w.heap.size w w' := by
  obtain ⟨a, cap, rfl, hl, hm, hc⟩ := hv
  unfold maxLen at hm
  have HC : Hid (RowAt w a 1 (l.map byX)) := hc
  clear hc
  by_cases hok : okGet l x s
  · obtain ⟨rfl, rfl⟩ : q = true ∧ N = getL l x.toNat s.toNat := by
      rcases hq with ⟨h, _, h'⟩ | ⟨_, h, _⟩
      · exact ⟨h, h'⟩
      · exact absurd hok h
    clear hq
    obtain ⟨h1, h2, h3, h4⟩ := hok
    obtain ⟨z, rfl⟩ : ∃ z : Nat, s = (z : Int) := ⟨s.toNat, by omega⟩
    obtain ⟨y, rfl⟩ : ∃ y : Nat, x = (y : Int) := ⟨x.toNat, by omega⟩
    have hyz : y + z ≤ l.length := by omega
    go_enter Tryz.func77, Tryz.ntmps77
    go_wp2
    go_loopw [8, 9] (fun n i wr => ∃ k S : Nat, k ≤ z ∧ i = .int .i64 (k : Int) ∧ n = .int .i64 (S : Int) ∧ Hid (S = getF 0 ((l.drop y).take k)) ∧ Below w.heap.size w wr) (fun _ i _ => z - (intOf i).toNat)
    case atStart => exact ⟨0, 0, Nat.zero_le _, rfl, rfl, rfl, (by repeat (first | with_reducible exact Below.refl _ _ | with_reducible assumption | with_reducible refine ch_alloc ?_ _ | with_reducible refine Below.drew ?_ | with_reducible refine below_draws _ ?_ | (with_reducible refine Below.setCell ?_ ?_ _; rotate_left; focus (first | with_reducible exact Nat.le_refl _ | (simp; done) | (simp; omega) | (simp at *; omega))) | with_reducible refine ch_trans ?_ (by with_reducible assumption)))⟩
    case round =>
      obtain ⟨k, S, hk, rfl, rfl, HS, hb⟩ := hrel
      by_cases hlt : k < z
      · have hlti : (k : Int) < z := by omega
        have hyk : y + k < l.length := by omega
        obtain ⟨b, off, rfl, c0⟩ := (HC.out.on hb).bytes (y + k) hyk
        have hSlt : S < 1099511627776 := by rw [HS.out]; exact get_lt (by omega)
        have hc255 : l[y + k].toNat < 256 := l[y + k].toNat_lt
        have HN : Hid (S * 256 + l[y + k].toNat = getF 0 ((l.drop y).take (k + 1))) := by
          show _ = _
          rw [get_step hyk, ← HS.out]
        generalize l[y + k].toNat = C at c0 hc255 HN
        go_wp2
        go_round
        case rel => exact ⟨k + 1, S * 256 + C, by omega, by go_num, by go_num, HN, (by repeat (first | with_reducible exact Below.refl _ _ | with_reducible assumption | with_reducible refine ch_alloc ?_ _ | with_reducible refine Below.drew ?_ | with_reducible refine below_draws _ ?_ | (with_reducible refine Below.setCell ?_ ?_ _; rotate_left; focus (first | with_reducible exact Nat.le_refl _ | (simp; done) | (simp; omega) | (simp at *; omega))) | with_reducible refine ch_trans ?_ (by with_reducible assumption)))⟩
        case measure => simp [intOf]; omega
      · have hlti : (z : Int) ≤ k := by omega
        obtain rfl : k = z := by omega
        have HE : Hid (((getL l ((y : Int)).toNat ((k : Int)).toNat : Nat) : Int) = (S : Int)) := by show _ = _; rw [HS.out]; rfl
        go_wp2
        go_ret2
        exact ⟨by rw [HE.out]; rfl, (by repeat (first | with_reducible exact Below.refl _ _ | with_reducible assumption | with_reducible refine ch_alloc ?_ _ | with_reducible refine Below.drew ?_ | with_reducible refine below_draws _ ?_ | (with_reducible refine Below.setCell ?_ ?_ _; rotate_left; focus (first | with_reducible exact Nat.le_refl _ | (simp; done) | (simp; omega) | (simp at *; omega))) | with_reducible refine ch_trans ?_ (by with_reducible assumption)))⟩
  · obtain ⟨rfl, rfl⟩ : q = false ∧ N = 0 := by
      rcases hq with ⟨_, h, _⟩ | ⟨h, _, h'⟩
      · exact absurd h hok
      · exact ⟨h, h'⟩
    clear hq
    by_cases h1 : s < 1
    · go_enter Tryz.func77, Tryz.ntmps77
      go_wp2
      go_ret2
      exact ⟨rfl, (by repeat (first | with_reducible exact Below.refl _ _ | with_reducible assumption | with_reducible refine ch_alloc ?_ _ | with_reducible refine Below.drew ?_ | with_reducible refine below_draws _ ?_ | (with_reducible refine Below.setCell ?_ ?_ _; rotate_left; focus (first | with_reducible exact Nat.le_refl _ | (simp; done) | (simp; omega) | (simp at *; omega))) | with_reducible refine ch_trans ?_ (by with_reducible assumption)))⟩
    by_cases h2 : 6 < s
    · go_enter Tryz.func77, Tryz.ntmps77
      go_wp2
      go_ret2
      exact ⟨rfl, (by repeat (first | with_reducible exact Below.refl _ _ | with_reducible assumption | with_reducible refine ch_alloc ?_ _ | with_reducible refine Below.drew ?_ | with_reducible refine below_draws _ ?_ | (with_reducible refine Below.setCell ?_ ?_ _; rotate_left; focus (first | with_reducible exact Nat.le_refl _ | (simp; done) | (simp; omega) | (simp at *; omega))) | with_reducible refine ch_trans ?_ (by with_reducible assumption)))⟩
    by_cases h3 : x < 0
    · go_enter Tryz.func77, Tryz.ntmps77
      go_wp2
      go_ret2
      exact ⟨rfl, (by repeat (first | with_reducible exact Below.refl _ _ | with_reducible assumption | with_reducible refine ch_alloc ?_ _ | with_reducible refine Below.drew ?_ | with_reducible refine below_draws _ ?_ | (with_reducible refine Below.setCell ?_ ?_ _; rotate_left; focus (first | with_reducible exact Nat.le_refl _ | (simp; done) | (simp; omega) | (simp at *; omega))) | with_reducible refine ch_trans ?_ (by with_reducible assumption)))⟩
    have h4 : (l.length : Int) - s < x := by
      unfold okGet at hok
      omega
    clear hok
    go_enter Tryz.func77, Tryz.ntmps77
    go_wp2
    go_ret2
    exact ⟨rfl, (by repeat (first | with_reducible exact Below.refl _ _ | with_reducible assumption | with_reducible refine ch_alloc ?_ _ | with_reducible refine Below.drew ?_ | with_reducible refine below_draws _ ?_ | (with_reducible refine Below.setCell ?_ ?_ _; rotate_left; focus (first | with_reducible exact Nat.le_refl _ | (simp; done) | (simp; omega) | (simp at *; omega))) | with_reducible refine ch_trans ?_ (by with_reducible assumption)))⟩
set_option maxRecDepth 100000 in
set_option maxHeartbeats 1000000 in
/-- impl.GetNum -/
theorem getNum_impl (v : Value) (l : List UInt8) (x s : Int) (w : World) (hv : BytesV w v l) (q : Bool) (N : Nat) (hq : (q = true ∧ okGet l x s ∧ N = getL l x.toNat s.toNat) ∨ (q = false ∧ ¬ okGet l x s ∧ N = 0)) :
    Calls Tryz.prog 111 #[v, .int .i64 x, .int .i64 s] w fun e w' => e = .returned (.tuple #[.int .i64 (N : Int), .bool q]) ∧ Below w.heap.size w w' := by
  obtain ⟨a, cap, rfl, hl, hm, hc⟩ := hv
  unfold maxLen at hm
  have HC : Hid (RowAt w a 1 (l.map byX)) := hc
  clear hc
  by_cases hs : 1 ≤ s ∧ s ≤ 6
  · have HS : Hid (∀ u : World, Calls Tryz.prog 136 #[.int .i64 s] u fun e w' => e = .returned (.bool true) ∧ Below u.heap.size u w') := fun u => by
      have := sizeOk_any s u
      rwa [show (decide (1 ≤ s) && decide (s ≤ 6)) = true by simp; omega] at this
    by_cases hok : okGet l x s
    · obtain ⟨rfl, rfl⟩ : q = true ∧ N = getL l x.toNat s.toNat := by
        rcases hq with ⟨h, _, h'⟩ | ⟨_, h, _⟩
        · exact ⟨h, h'⟩
        · exact absurd hok h
      clear hq
      obtain ⟨h1, h2, h3, h4⟩ := hok
      obtain ⟨z, rfl⟩ : ∃ z : Nat, s = (z : Int) := ⟨s.toNat, by omega⟩
      obtain ⟨y, rfl⟩ : ∃ y : Nat, x = (y : Int) := ⟨x.toNat, by omega⟩
      have hyz : y + z ≤ l.length := by omega
      obtain ⟨b, off, rfl, _⟩ := HC.out.bytes 0 (by omega)
      go_enter Tryz.func111, Tryz.ntmps111
      go_wp2_with (go_at_call 136; refine (HS.out _).mono ?_; rintro e w1 ⟨rfl, b1⟩)
      go_loopw [8, 33] (fun n i wr => ∃ k S : Nat, k ≤ z ∧ i = .int .i64 (k : Int) ∧ n = .int .i64 (S : Int) ∧ Hid (S = getF 0 ((l.drop y).take k)) ∧ Below w.heap.size w wr) (fun _ i _ => z - (intOf i).toNat)
      case atStart => exact ⟨0, 0, Nat.zero_le _, rfl, rfl, rfl, (by repeat (first | with_reducible exact Below.refl _ _ | with_reducible assumption | with_reducible refine ch_alloc ?_ _ | with_reducible refine Below.drew ?_ | with_reducible refine below_draws _ ?_ | (with_reducible refine Below.setCell ?_ ?_ _; rotate_left; focus (first | with_reducible exact Nat.le_refl _ | (simp; done) | (simp; omega) | (simp at *; omega))) | with_reducible refine ch_trans ?_ (by with_reducible assumption)))⟩
      case round =>
        obtain ⟨k, S, hk, rfl, rfl, HV, hb⟩ := hrel
        by_cases hlt : k < z
        · have hlti : (k : Int) < z := by omega
          have hyk : y + k < l.length := by omega
          obtain ⟨b', off', hbo, c0⟩ := (HC.out.on hb).bytes (y + k) hyk
          cases hbo
          have hSlt : S < 1099511627776 := by rw [HV.out]; exact get_lt (by omega)
          have hc255 : l[y + k].toNat < 256 := l[y + k].toNat_lt
          have HN : Hid (S * 256 + l[y + k].toNat = getF 0 ((l.drop y).take (k + 1))) := by
            show _ = _
            rw [get_step hyk, ← HV.out]
          generalize l[y + k].toNat = C at c0 hc255 HN
          rw [← Nat.add_assoc] at c0
          go_wp2
          go_round
          case rel => exact ⟨k + 1, S * 256 + C, by omega, by go_num, by go_num, HN, (by repeat (first | with_reducible exact Below.refl _ _ | with_reducible assumption | with_reducible refine ch_alloc ?_ _ | with_reducible refine Below.drew ?_ | with_reducible refine below_draws _ ?_ | (with_reducible refine Below.setCell ?_ ?_ _; rotate_left; focus (first | with_reducible exact Nat.le_refl _ | (simp; done) | (simp; omega) | (simp at *; omega))) | with_reducible refine ch_trans ?_ (by with_reducible assumption)))⟩
          case measure => simp [intOf]; omega
        · have hlti : (z : Int) ≤ k := by omega
          obtain rfl : k = z := by omega
          have HE : Hid (((getL l ((y : Int)).toNat ((k : Int)).toNat : Nat) : Int) = (S : Int)) := by show _ = _; rw [HV.out]; rfl
          go_wp2
          go_ret2
          exact ⟨by rw [HE.out]; rfl, (by repeat (first | with_reducible exact Below.refl _ _ | with_reducible assumption | with_reducible refine ch_alloc ?_ _ | with_reducible refine Below.drew ?_ | with_reducible refine below_draws _ ?_ | (with_reducible refine Below.setCell ?_ ?_ _; rotate_left; focus (first | with_reducible exact Nat.le_refl _ | (simp; done) | (simp; omega) | (simp at *; omega))) | with_reducible refine ch_trans ?_ (by with_reducible assumption)))⟩
    · obtain ⟨rfl, rfl⟩ : q = false ∧ N = 0 := by
        rcases hq with ⟨_, h, _⟩ | ⟨h, _, h'⟩
        · exact absurd h hok
        · exact ⟨h, h'⟩
      clear hq
      by_cases h3 : x < 0
      · go_enter Tryz.func111, Tryz.ntmps111
        go_wp2_with (go_at_call 136; refine (HS.out _).mono ?_; rintro e w1 ⟨rfl, b1⟩)
        go_ret2
        exact ⟨rfl, (by repeat (first | with_reducible exact Below.refl _ _ | with_reducible assumption | with_reducible refine ch_alloc ?_ _ | with_reducible refine Below.drew ?_ | with_reducible refine below_draws _ ?_ | (with_reducible refine Below.setCell ?_ ?_ _; rotate_left; focus (first | with_reducible exact Nat.le_refl _ | (simp; done) | (simp; omega) | (simp at *; omega))) | with_reducible refine ch_trans ?_ (by with_reducible assumption)))⟩
      have h4 : (l.length : Int) - s < x := by
        unfold okGet at hok
        omega
      clear hok
      go_enter Tryz.func111, Tryz.ntmps111
      go_wp2_with (go_at_call 136; refine (HS.out _).mono ?_; rintro e w1 ⟨rfl, b1⟩)
      go_ret2
      exact ⟨rfl, (by repeat (first | with_reducible exact Below.refl _ _ | with_reducible assumption | with_reducible refine ch_alloc ?_ _ | with_reducible refine Below.drew ?_ | with_reducible refine below_draws _ ?_ | (with_reducible refine Below.setCell ?_ ?_ _; rotate_left; focus (first | with_reducible exact Nat.le_refl _ | (simp; done) | (simp; omega) | (simp at *; omega))) | with_reducible refine ch_trans ?_ (by with_reducible assumption)))⟩
  · have HS : Hid (∀ u : World, Calls Tryz.prog 136 #[.int .i64 s] u fun e w' => e = .returned (.bool false) ∧ Below u.heap.size u w') := fun u => by
      have := sizeOk_any s u
      rwa [show (decide (1 ≤ s) && decide (s ≤ 6)) = false by simp; omega] at this
    obtain ⟨rfl, rfl⟩ : q = false ∧ N = 0 := by
      rcases hq with ⟨_, h, _⟩ | ⟨h, _, h'⟩
      · exact absurd ⟨h.1, h.2.1⟩ hs
      · exact ⟨h, h'⟩
    clear hq
    go_enter Tryz.func111, Tryz.ntmps111
    go_wp2_with (go_at_call 136; refine (HS.out _).mono ?_; rintro e w1 ⟨rfl, b1⟩)
    go_ret2
    exact ⟨rfl, (by repeat (first | with_reducible exact Below.refl _ _ | with_reducible assumption | with_reducible refine ch_alloc ?_ _ | with_reducible refine Below.drew ?_ | with_reducible refine below_draws _ ?_ | (with_reducible refine Below.setCell ?_ ?_ _; rotate_left; focus (first | with_reducible exact Nat.le_refl _ | (simp; done) | (simp; omega) | (simp at *; omega))) | with_reducible refine ch_trans ?_ (by with_reducible assumption)))⟩
end Go.Proofs.YtiijahoheajppaaGreat

namespace Go.Proofs.YtiijahoheajppaaGreat
open Go.ChangeShapes Go.WideShapes Go.ChangeAt Go.RowKit

theorem Grows.refl (w : World) : Grows w w := Below.refl _ _
theorem Grows.trans {a b c : World} (h : Grows a b) (k : Grows b c) : Grows a c := ch_trans h k
/-- How worlds may follow one another. -/
structure Rel (G : World → World → Prop) : Prop where
  refl : ∀ w, G w w
  trans : ∀ {a b c}, G a b → G b c → G a c
theorem Grows.rel : Rel Grows := ⟨Grows.refl, Grows.trans⟩
theorem Below.rel (B : Nat) : Rel (Below B) := ⟨fun _ => Below.refl _ _, fun h k => Below.trans h k⟩

/-- An operation that enters no function. -/
def lightB (o : Oper) : Bool := match o.op with
  | .move .. | .assign .. | .build .. | .load .. | .binOp .. | .unOp .. | .convert .. | .makeInterface .. | .slice .. | .fieldAddr .. | .field .. | .indexAddr .. | .index .. | .lookup .. | .extract .. | .pick .. => true
  | _ => false
theorem light_calm {P : Program} {ρ : Operand → Value} {o : Oper} (h : lightB o = true) {w w' : World} {f : FuncId} {args : Array Value} : (execOp ρ o).run P w ≠ .ok (.enter f args) w' := by
  have key : ∀ (s : Sem Value), Sem.run P (do let x ← s; pure (Next.value x)) w ≠ .ok (.enter f args) w' := by
    intro s
    rw [Sem.run_bind]
    cases s.run P w <;> simp [go_sem]
  unfold lightB at h
  unfold execOp
  have key' : ∀ (s : Sem Bool) (g : Bool → Value), Sem.run P (do pure (Next.value (g (← s)))) w ≠ .ok (.enter f args) w' := by
    intro s g
    rw [Sem.run_bind]
    cases s.run P w <;> simp [go_sem]
  cases ho : o.op <;> simp only [ho] at h ⊢ <;> first | exact key _ | exact key' _ (fun b => if b = true then _ else _) | (cases h; done) | simp [go_sem]

section
variable {P : Program} {ops : Array Oper} {md : Region.Mode} {Q : Act → World → Prop}

/-- What is asked of one operation: no panic. -/
def calmUpon (P : Program) (o : Oper) (a : Act) (K : Act → World → Prop) : Result Next → Prop
  | .ok (.value v) w' => K (a.put o.dst v) w'
  | .ok .skip w' => K (a.put o.dst undef) w'
  | .ok (.enter f args) w' => Calls P f args w' fun e w'' => ∃ v, e = .returned v ∧ K (a.put o.dst v) w''
  | _ => False
def calm (P : Program) (o : Oper) (a : Act) (w : World) (K : Act → World → Prop) : Prop := calmUpon P o a K ((execOp a.eval o).run P w)
def gOp (P : Program) (ops : Array Oper) (i : Nat) (K : Act → World → Prop) (a : Act) (w : World) : Prop :=
  match ops[i]? with
  | none => K a w
  | some o => if Region.wanted o (yielded ops a.tmps) then calm P o a w K else K (a.put o.dst undef) w
theorem calm_mono {o : Oper} {a : Act} {w : World} {K K' : Act → World → Prop} (h : ∀ a w, K a w → K' a w) (hh : calm P o a w K) : calm P o a w K' := by
  unfold calm at *
  generalize (execOp a.eval o).run P w = r at *
  cases r with
  | ok n w' =>
    cases n <;> simp only [calmUpon] at hh ⊢ <;> first | exact h _ _ hh | exact Calls.mono hh (fun e w'' ⟨v, he, hk⟩ => ⟨v, he, h _ _ hk⟩)
  | halt x w' => simp only [calmUpon] at hh
theorem gOp_mono {i : Nat} {a : Act} {w : World} {K K' : Act → World → Prop} (h : ∀ a w, K a w → K' a w) (hh : gOp P ops i K a w) : gOp P ops i K' a w := by
  unfold gOp at *
  split
  · exact h _ _ (by simpa [*] using hh)
  · rename_i o ho
    simp only [ho] at hh
    split
    · rename_i hw; simp only [hw, if_true] at hh; exact calm_mono h hh
    · rename_i hw; simp only [hw] at hh; exact h _ _ hh
theorem wpOp_of_gOp {i : Nat} {a : Act} {w : World} {K K' : Act → World → Prop} {Q' : Exit → Act → World → Prop} (h : ∀ a w, K a w → K' a w) (hh : gOp P ops i K a w) : wpOp P ops Q' i K' a w := by
  unfold gOp at hh
  unfold wpOp
  split
  · rename_i ho; simp only [ho] at hh; exact h _ _ hh
  · rename_i o ho
    simp only [ho] at hh
    split
    · rename_i hw
      simp only [hw, if_true] at hh
      refine .inl ?_
      unfold calm at hh
      unfold Oper.wp
      generalize (execOp a.eval o).run P w = r at *
      cases r with
      | ok n w' =>
        cases n <;> simp only [calmUpon] at hh <;> simp only [Oper.upon] <;> first | exact h _ _ hh | exact Calls.mono hh (fun e w'' ⟨v, he, hk⟩ => by subst he; exact h _ _ hk)
      | halt x w' => simp only [calmUpon] at hh
    · rename_i hw; simp only [hw] at hh; exact h _ _ hh

/-- An operation that every other one comes ahead of. -/
def endsB (md : Region.Mode) (ops : Array Oper) (j : Nat) : Bool := match ops[j]? with
  | some o => (List.range ops.size).all fun k => k == j || o.after.any fun e => Region.binds md e && e.on == k
  | none => false
theorem ends_on {md : Region.Mode} {ops : Array Oper} {i j : Nat} {oj : Oper} (h : endsB md ops j = true) (hj : ops[j]? = some oj) (hi : i < ops.size) (hne : j ≠ i) : ∃ e ∈ oj.after, Region.binds md e = true ∧ e.on = i := by
  unfold endsB at h
  simp only [hj, List.all_eq_true, List.mem_range] at h
  have h1 := h i hi
  simp only [Bool.or_eq_true, beq_iff_eq, Array.any_eq_true'] at h1
  rcases h1 with h1 | ⟨e, he, h2⟩
  · exact absurd h1.symm hne
  · simp only [Bool.and_eq_true, beq_iff_eq] at h2
    exact ⟨e, he, h2⟩
variable {G : World → World → Prop}
/-- Whatever order is picked, every world grown out of the one before; but for the operation at the end. -/
def gAny (P : Program) (md : Region.Mode) (ops : Array Oper) (G : World → World → Prop) (Q : Act → World → Prop) : Nat → Array Bool → Act → World → Prop
  | 0, listed, a, w => Region.ready md ops listed = [] ∧ Q a w
  | fuel + 1, listed, a, w => (Region.ready md ops listed = [] → Q a w) ∧
    ∀ i ∈ Region.ready md ops listed, gOp P ops i (fun a' w' => (endsB md ops i = true ∨ G w w') ∧ gAny P md ops G Q fuel (listed.setIfInBounds i true) a' w') a w
theorem wpAny_of_gAny {Q' : Exit → Act → World → Prop} (hQ : ∀ a w, Q a w → Q' .normal a w) : ∀ (fuel : Nat) (listed : Array Bool) (a : Act) (w : World), gAny P md ops G Q fuel listed a w → wpAny P md ops Q' fuel listed a w
  | 0, _, _, _, h => ⟨h.1, hQ _ _ h.2⟩
  | fuel + 1, _, _, _, h => ⟨fun h0 => hQ _ _ (h.1 h0), fun i hi => wpOp_of_gOp (fun a' w' h' => wpAny_of_gAny hQ fuel _ a' w' h'.2) (h.2 i hi)⟩

/-- In every world grown out of 'u' the operation leaves 'v', and the world as it is. -/
def Looks (P : Program) (ops : Array Oper) (G : World → World → Prop) (u : World) (o : Oper) (v : Value) (a : Act) : Prop :=
  (Region.wanted o (yielded ops a.tmps) = true ∧ ∀ w, G u w → ((execOp a.eval o).run P w = .ok (.value v) w ∨ ((execOp a.eval o).run P w = .ok .skip w ∧ v = undef))) ∨
  (Region.wanted o (yielded ops a.tmps) = false ∧ v = undef)
theorem Looks.on (hG : Rel G) {u u' : World} {o : Oper} {v : Value} {a : Act} (h : Looks P ops G u o v a) (k : G u u') : Looks P ops G u' o v a :=
  h.imp (fun h => ⟨h.1, fun w hw => h.2 w (hG.trans k hw)⟩) id
theorem Looks.gOp (hG : Rel G) {i : Nat} {o : Oper} {v : Value} {a : Act} {w : World} (hi : ops[i]? = some o) (hy : Looks P ops G w o v a) {K : Act → World → Prop} (h : K (a.put o.dst v) w) : gOp P ops i K a w := by
  unfold Go.Proofs.YtiijahoheajppaaGreat.gOp
  simp only [hi]
  rcases hy with ⟨hw, hv⟩ | ⟨hw, rfl⟩
  · simp only [hw, if_true, calm]
    rcases hv w (hG.refl w) with hx | ⟨hx, rfl⟩ <;> rw [hx] <;> exact h
  · simp only [hw, Bool.false_eq_true, if_false]; exact h
theorem Looks.of_same {u : World} {o : Oper} {v : Value} {a a' : Act} (hy : Looks P ops G u o v a) (he : execOp a'.eval o = execOp a.eval o)
    (hw : Region.wanted o (yielded ops a'.tmps) = Region.wanted o (yielded ops a.tmps)) : Looks P ops G u o v a' := by
  unfold Looks at *
  rw [he, hw]
  exact hy
theorem gOp_put {u : World} {j : Nat} {oi oj : Oper} {v : Value} (hj : ops[j]? = some oj) (hap : oi.apart ops oj = true)
    (hsi : ∀ cs b, oi.op ≠ .select cs b) (hsj : ∀ cs b, oj.op ≠ .select cs b) {K : Act → World → Prop} {a : Act} {w : World}
    (hy : Looks P ops G u oi v a) (h : gOp P ops j K (a.put oi.dst v) w) : gOp P ops j (fun a' w' => Looks P ops G u oi v a' ∧ K (a'.put oi.dst v) w') a w := by
  obtain ⟨h1, h2, h3⟩ := Oper.apart_spec hap
  have keep : ∀ (a : Act), Looks P ops G u oi v a → ∀ x, Looks P ops G u oi v (a.put oj.dst x) := fun a hy x =>
    hy.of_same (execOp_put oi hsi a oj.dst x h3) (wanted_put oi a oj.dst x h3)
  unfold gOp at *
  simp only [hj] at *
  rw [wanted_put oj a oi.dst v h1] at h
  split
  · rename_i hw
    simp only [hw, if_true] at h
    unfold calm at *
    rw [execOp_put oj hsj a oi.dst v h1] at h
    generalize (execOp a.eval oj).run P w = r at *
    cases r with
    | ok n w' =>
      cases n <;> simp only [calmUpon] at h ⊢
      case value x => exact ⟨keep a hy x, by rw [← Act.put_comm a v x h2]; exact h⟩
      case skip => exact ⟨keep a hy _, by rw [← Act.put_comm a v undef h2]; exact h⟩
      case enter f args =>
        exact Calls.mono h fun e w'' ⟨x, he, hk⟩ => ⟨x, he, keep a hy x, by rw [← Act.put_comm a v x h2]; exact hk⟩
    | halt x w' => simp only [calmUpon] at h
  · rename_i hw
    simp only [hw] at h
    exact ⟨keep a hy _, by rw [← Act.put_comm a v undef h2]; exact h⟩
/-- An operation that only looks may be taken first. -/
theorem gAny_first (hG : Rel G) {i : Nat} {oi : Oper} {v : Value} (hi : ops[i]? = some oi) (hsel : ∀ (j : Nat) (o : Oper) cs b, ops[j]? = some o → o.op ≠ .select cs b) :
    ∀ (fuel : Nat) (listed : Array Bool) (a : Act) (w : World),
      (∀ j oj, ops[j]? = some oj → j ≠ i → listed.getD j true = false → (∀ e ∈ oj.after, Region.binds md e = true → e.on ≠ i) → oi.apart ops oj = true) →
      i ∈ Region.ready md ops listed → Looks P ops G w oi v a →
      gAny P md ops G Q fuel (listed.setIfInBounds i true) (a.put oi.dst v) w → gAny P md ops G Q (fuel + 1) listed a w := by
  intro fuel
  induction fuel with
  | zero =>
    intro listed a w _ hr hy H
    refine ⟨fun h => (by rw [h] at hr; cases hr), fun j hj => ?_⟩
    by_cases hji : j = i
    · subst hji; exact hy.gOp hG hi ⟨Or.inr (hG.refl w), H⟩
    · have := ready_mono hj hji
      rw [H.1] at this
      cases this
  | succ fuel ih =>
    intro listed a w hfree hr hy H
    refine ⟨fun h => (by rw [h] at hr; cases hr), fun j hj => ?_⟩
    by_cases hji : j = i
    · subst hji; exact hy.gOp hG hi ⟨Or.inr (hG.refl w), H⟩
    · have h1 := H.2 j (ready_mono hj hji)
      obtain ⟨hjun, oj, hoj, hall⟩ := mem_ready.1 hj
      have hnot : ∀ e ∈ oj.after, Region.binds md e = true → e.on ≠ i := fun e he hb heq => by
        have h1 := hall e he hb
        have h0 := (mem_ready.1 hr).1
        rw [heq] at h1
        rcases Nat.lt_or_ge i listed.size with h' | h'
        · simp [h'] at h0 h1; rw [h0] at h1; cases h1
        · simp [Array.getElem?_eq_none h'] at h1
      have h2 := gOp_put hoj (hfree j oj hoj hji hjun hnot) (fun cs b => hsel i oi cs b hi) (fun cs b => hsel j oj cs b hoj) hy h1
      have hfree' : ∀ k ok, ops[k]? = some ok → k ≠ i → (listed.setIfInBounds j true).getD k true = false →
          (∀ e ∈ ok.after, Region.binds md e = true → e.on ≠ i) → oi.apart ops ok = true := fun k ok hk hki hun hno => by
        refine hfree k ok hk hki ?_ hno
        by_cases hjk : j = k
        · subst hjk; exact hjun
        · rw [getD_set_ne true hjk] at hun; exact hun
      have hlt : i < ops.size := (Array.getElem?_eq_some_iff.1 hi).1
      refine gOp_mono (fun a' w' h3 => ?_) h2
      have hg : G w w' := by
        rcases h3.2.1 with hE | hg
        · obtain ⟨e, he, hb, heq⟩ := ends_on hE hoj hlt hji
          exact absurd heq (hnot e he hb)
        · exact hg
      refine ⟨Or.inr hg, ih (listed.setIfInBounds j true) a' w' hfree' (ready_mono hr (Ne.symm hji)) (h3.1.on hG hg) ?_⟩
      rw [Array.setIfInBounds_comm _ _ hji]
      exact h3.2.2

/-- The operations of some numbers. -/
def pick (ops : Array Oper) : List Nat → List Oper
  | [] => []
  | i :: r => match ops[i]? with
    | some o => o :: pick ops r
    | none => pick ops r
/-- The numbers are of operations that only look, each may come up, and is apart from what has not. -/
def lightsB (md : Region.Mode) (ops : Array Oper) : List Nat → Array Bool → Bool
  | [], _ => true
  | i :: r, listed => (match ops[i]? with | some o => lightB o | none => false) && (Region.ready md ops listed).contains i && Region.free md ops listed i && lightsB md ops r (listed.setIfInBounds i true)
def after' : List Nat → Array Bool → Array Bool
  | [], listed => listed
  | i :: r, listed => after' r (listed.setIfInBounds i true)
theorem looks_of_quiet {i : Nat} {o : Oper} {a : Act} {w : World} {K : Act → Prop} (hl : lightB o = true) (hi : ops[i]? = some o) (h : qOp P ops (G w) i K a) : ∃ v, Looks P ops G w o v a ∧ K (a.put o.dst v) := by
  obtain ⟨v, hy, hk⟩ := yieldsIn_of_qOp hi h
  refine ⟨v, ?_, hk⟩
  rcases hy with ⟨hw, hv⟩ | hy
  · refine .inl ⟨hw, fun w' hw' => ?_⟩
    have h1 := hv w' hw'
    unfold Oper.quietAt at h1
    cases hr : (execOp a.eval o).run P w' with
    | ok n w'' =>
      rw [hr] at h1
      cases n <;> simp only [Oper.quietUpon] at h1
      case value u => obtain ⟨rfl, rfl⟩ := h1; exact .inl rfl
      case skip => obtain ⟨rfl, rfl⟩ := h1; exact .inr ⟨rfl, rfl⟩
      case enter f args => exact absurd hr (light_calm hl)
    | halt x w'' => rw [hr] at h1; simp only [Oper.quietUpon] at h1
  · exact .inr hy
theorem gAny_lights (hG : Rel G) {R : Act → Prop} {w : World} (hs : Region.noSelect ops = true) (fuel : Nat) : ∀ (l : List Nat) (listed : Array Bool) (a : Act), lightsB md ops l listed = true →
    wpQuiet P ops (G w) R (pick ops l) a → (∀ a', R a' → gAny P md ops G Q fuel (after' l listed) a' w) → gAny P md ops G Q (fuel + l.length) listed a w
  | [], _, _, _, h, k => k _ h
  | i :: r, listed, a, hB, h, k => by
    simp only [lightsB, Bool.and_eq_true] at hB
    obtain ⟨⟨⟨hl, hr⟩, hf⟩, hB⟩ := hB
    cases hi : ops[i]? with
    | none => simp [hi] at hl
    | some o =>
      simp only [hi] at hl
      simp only [pick, hi] at h
      have hq : qOp P ops (G w) i (wpQuiet P ops (G w) R (pick ops r)) a := by unfold qOp; simp only [hi]; exact h
      obtain ⟨v, hy, hK⟩ := looks_of_quiet hl hi hq
      exact gAny_first hG hi (Region.noSelect_spec hs) (fuel + r.length) listed a w (Region.free_spec hi hf) (by simpa using hr) hy (gAny_lights hG hs fuel r _ _ hB hK k)

/-- The walk: looks, then a call, and so on. -/
def wpPlan (P : Program) (ops : Array Oper) (Q : Act → World → Prop) : List (List Nat × Nat) → List Nat → Act → World → Prop
  | [], last, a, w => wpQuiet P ops (Grows w) (fun a' => Q a' w) (pick ops last) a
  | (l, h) :: r, last, a, w => wpQuiet P ops (Grows w) (fun a' => gOp P ops h (fun a'' w'' => Grows w w'' ∧ wpPlan P ops Q r last a'' w'') a' w) (pick ops l) a
def planB (md : Region.Mode) (ops : Array Oper) : List (List Nat × Nat) → List Nat → Array Bool → Bool
  | [], last, listed => lightsB md ops last listed && (Region.ready md ops (after' last listed)).isEmpty
  | (l, h) :: r, last, listed => lightsB md ops l listed && (Region.ready md ops (after' l listed) == [h]) && planB md ops r last ((after' l listed).setIfInBounds h true)
def planLen : List (List Nat × Nat) → List Nat → Nat
  | [], last => last.length
  | (l, _) :: r, last => planLen r last + 1 + l.length
theorem gAny_more {G : World → World → Prop} {w : World} {a : Act} {listed : Array Bool} (h : Region.ready md ops listed = []) (hq : Q a w) : ∀ n, gAny P md ops G Q n listed a w
  | 0 => ⟨h, hq⟩
  | n + 1 => ⟨fun _ => hq, fun i hi => by rw [h] at hi; cases hi⟩
theorem gAny_plan (hs : Region.noSelect ops = true) (n : Nat) : ∀ (pl : List (List Nat × Nat)) (last : List Nat) (listed : Array Bool) (a : Act) (w : World), planB md ops pl last listed = true →
    wpPlan P ops Q pl last a w → gAny P md ops Grows Q (n + planLen pl last) listed a w
  | [], last, listed, a, w, hB, h => by
    simp only [planB, Bool.and_eq_true, List.isEmpty_iff] at hB
    exact gAny_lights Grows.rel hs n last listed a hB.1 h fun a' hq => gAny_more hB.2 hq n
  | (l, x) :: r, last, listed, a, w, hB, h => by
    simp only [planB, Bool.and_eq_true, beq_iff_eq] at hB
    obtain ⟨⟨hl, hr⟩, hB⟩ := hB
    have : n + planLen ((l, x) :: r) last = (n + planLen r last + 1) + l.length := by simp only [planLen]; omega
    rw [this]
    refine gAny_lights Grows.rel hs _ l listed a hl h fun a' hq => ⟨fun h0 => (by rw [hr] at h0; cases h0), fun i hi => ?_⟩
    rw [hr] at hi
    have hi : i = x := by simpa using hi
    subst hi
    exact gOp_mono (fun a'' w'' hh => ⟨Or.inr hh.1, gAny_plan hs n r last _ a'' w'' hB hh.2⟩) hq
def regionB (ops : Array Oper) (pl : List (List Nat × Nat)) (last : List Nat) : Bool := Region.noSelect ops && planB .any ops pl last (Array.replicate ops.size false) && decide (planLen pl last ≤ ops.size)
theorem region_plan {id : Nat} {Q : Exit → Act → World → Prop} {a : Act} {w : World} {l : List Oper} (pl : List (List Nat × Nat)) (last : List Nat) (hm : P.follows .mixedOrders = true) (hB : regionB l.toArray pl last = true)
    (h : wpPlan P l.toArray (Q .normal) pl last a { w with drawn := w.drawn + 1 }) : (Code.region id l.toArray true).wp P Q a w := by
  simp only [regionB, Bool.and_eq_true, decide_eq_true_eq] at hB
  obtain ⟨⟨hs, hB⟩, hn⟩ := hB
  refine wp_region_any hm (wpAny_of_gAny (G := Grows) (Q := Q .normal) (fun _ _ h => h) _ _ _ _ ?_)
  have := gAny_plan (P := P) (Q := Q .normal) hs (l.toArray.size - planLen pl last) pl last (Array.replicate l.toArray.size false) a _ hB h
  rwa [Nat.sub_add_cancel hn] at this
/-- A plan whose last operation may turn what was there: a store. -/
def planX (md : Region.Mode) (ops : Array Oper) (x : Nat) : List (List Nat × Nat) → List Nat → Array Bool → Bool
  | [], last, listed => lightsB md ops last listed && (Region.ready md ops (after' last listed) == [x]) && (Region.ready md ops ((after' last listed).setIfInBounds x true)).isEmpty
  | (l, h) :: r, last, listed => lightsB md ops l listed && (Region.ready md ops (after' l listed) == [h]) && planX md ops x r last ((after' l listed).setIfInBounds h true)
theorem gAny_planX {x : Nat} (hE : endsB md ops x = true) (hs : Region.noSelect ops = true) (n : Nat) : ∀ (pl : List (List Nat × Nat)) (last : List Nat) (listed : Array Bool) (a : Act) (w : World), planX md ops x pl last listed = true →
    wpPlan P ops (fun a' w' => gOp P ops x Q a' w') pl last a w → gAny P md ops Grows Q (n + 1 + planLen pl last) listed a w
  | [], last, listed, a, w, hB, h => by
    simp only [planX, Bool.and_eq_true, List.isEmpty_iff, beq_iff_eq] at hB
    obtain ⟨⟨hl, hr⟩, h0⟩ := hB
    refine gAny_lights Grows.rel hs (n + 1) last listed a hl h fun a' hq => ⟨fun h1 => (by rw [hr] at h1; cases h1), fun i hi => ?_⟩
    rw [hr] at hi
    have hi : i = x := by simpa using hi
    subst hi
    exact gOp_mono (fun a'' w'' hh => ⟨Or.inl hE, gAny_more h0 hh n⟩) hq
  | (l, y) :: r, last, listed, a, w, hB, h => by
    simp only [planX, Bool.and_eq_true, beq_iff_eq] at hB
    obtain ⟨⟨hl, hr⟩, hB⟩ := hB
    have : n + 1 + planLen ((l, y) :: r) last = (n + 1 + planLen r last + 1) + l.length := by simp only [planLen]; omega
    rw [this]
    refine gAny_lights Grows.rel hs _ l listed a hl h fun a' hq => ⟨fun h0 => (by rw [hr] at h0; cases h0), fun i hi => ?_⟩
    rw [hr] at hi
    have hi : i = y := by simpa using hi
    subst hi
    exact gOp_mono (fun a'' w'' hh => ⟨Or.inr hh.1, gAny_planX hE hs n r last _ a'' w'' hB hh.2⟩) hq
def regionX (ops : Array Oper) (pl : List (List Nat × Nat)) (last : List Nat) (x : Nat) : Bool := endsB .any ops x && Region.noSelect ops && planX .any ops x pl last (Array.replicate ops.size false) && decide (1 + planLen pl last ≤ ops.size)
theorem region_store {id : Nat} {Q : Exit → Act → World → Prop} {a : Act} {w : World} {l : List Oper} (pl : List (List Nat × Nat)) (last : List Nat) (x : Nat) (hm : P.follows .mixedOrders = true) (hB : regionX l.toArray pl last x = true)
    (h : wpPlan P l.toArray (fun a' w' => gOp P l.toArray x (Q .normal) a' w') pl last a { w with drawn := w.drawn + 1 }) : (Code.region id l.toArray true).wp P Q a w := by
  simp only [regionX, Bool.and_eq_true, decide_eq_true_eq] at hB
  obtain ⟨⟨⟨hE, hs⟩, hB⟩, hn⟩ := hB
  refine wp_region_any hm (wpAny_of_gAny (G := Grows) (Q := Q .normal) (fun _ _ h => h) _ _ _ _ ?_)
  have := gAny_planX (P := P) (Q := Q .normal) hE hs (l.toArray.size - (1 + planLen pl last)) pl last (Array.replicate l.toArray.size false) a _ hB h
  rwa [show l.toArray.size - (1 + planLen pl last) + 1 + planLen pl last = l.toArray.size by omega] at this
/-- One step of a walk over all orders: looks, then whatever may come up. -/
theorem gAny_fork {G : World → World → Prop} (hG : Rel G) (hs : Region.noSelect ops = true) {fuel : Nat} {listed : Array Bool} {a : Act} {w : World} (l : List Nat) (R : List Nat) {L : List Oper} (hL : pick ops l = L) (hl : lightsB md ops l listed = true) (hr : Region.ready md ops (after' l listed) = R) (hne : R.isEmpty = false)
    (h : wpQuiet P ops (G w) (fun a' => ∀ i ∈ R, gOp P ops i (fun a'' w'' => G w w'' ∧ gAny P md ops G Q fuel ((after' l listed).setIfInBounds i true) a'' w'') a' w) L a) : gAny P md ops G Q (fuel + 1 + l.length) listed a w := by
  subst hL
  refine gAny_lights hG hs (fuel + 1) l listed a hl h fun a' hq => ⟨fun h0 => (by rw [hr] at h0; subst h0; cases hne), fun i hi => ?_⟩
  rw [hr] at hi
  exact gOp_mono (fun a'' w'' hh => ⟨Or.inr hh.1, hh.2⟩) (hq i hi)
/-- The end of such a walk: looks, then an operation that may turn what was there. -/
theorem gAny_stop {G : World → World → Prop} (hG : Rel G) (hs : Region.noSelect ops = true) {listed : Array Bool} {a : Act} {w : World} (l : List Nat) (x : Nat) {L : List Oper} (hL : pick ops l = L) (hE : endsB md ops x = true) (hl : lightsB md ops l listed = true) (hr : Region.ready md ops (after' l listed) = [x]) (h0 : Region.ready md ops ((after' l listed).setIfInBounds x true) = [])
    (h : wpQuiet P ops (G w) (fun a' => gOp P ops x Q a' w) L a) : gAny P md ops G Q (0 + 1 + l.length) listed a w := by
  subst hL
  refine gAny_lights hG hs (0 + 1) l listed a hl h fun a' hq => ⟨fun h1 => (by rw [hr] at h1; cases h1), fun i hi => ?_⟩
  rw [hr] at hi
  have hi : i = x := by simpa using hi
  subst hi
  exact gOp_mono (fun a'' w'' hh => ⟨Or.inl hE, gAny_more h0 hh 0⟩) hq
theorem region_fork {id : Nat} {Q : Exit → Act → World → Prop} {a : Act} {w : World} {l : List Oper} (G : World → World → Prop) (n : Nat) (hm : P.follows .mixedOrders = true) (hn : l.length = n)
    (h : gAny P .any l.toArray G (Q .normal) n (Array.replicate n false) a { w with drawn := w.drawn + 1 }) : (Code.region id l.toArray true).wp P Q a w := by
  subst hn
  refine wp_region_any hm (wpAny_of_gAny (G := G) (Q := Q .normal) (fun _ _ h => h) _ _ _ _ ?_)
  simpa using h
/-- The call that comes up. -/
theorem plan_call {i : Nat} {o : Oper} {a : Act} {w : World} {K : Act → World → Prop} (ho : ops[i]? = some o) (hw : Region.wanted o (yielded ops a.tmps) = true)
    (h : ∀ K' : Act → World → Prop, (∀ a' w', K a' w' → K' a' w') → calm P o a w K') : gOp P ops i K a w := by
  unfold gOp; simp only [ho, hw, if_true]; exact h K fun _ _ h => h
theorem plan_skip {i : Nat} {o : Oper} {a : Act} {w : World} {K : Act → World → Prop} (ho : ops[i]? = some o) (hw : Region.wanted o (yielded ops a.tmps) = false)
    (h : ∀ K' : Act → World → Prop, (∀ a' w', K a' w' → K' a' w') → K' (a.put o.dst undef) w) : gOp P ops i K a w := by
  unfold gOp; simp only [ho, hw, Bool.false_eq_true, if_false]; exact h K fun _ _ h => h
theorem plan_on {l : List Nat} {L : List Oper} {i : Nat} {r : List (List Nat × Nat)} {last : List Nat} {a : Act} {w : World} (hL : pick ops l = L)
    (h : wpQuiet P ops (Grows w) (fun a' => gOp P ops i (fun a'' w'' => Grows w w'' ∧ wpPlan P ops Q r last a'' w'') a' w) L a) : wpPlan P ops Q ((l, i) :: r) last a w := by
  subst hL; exact h
theorem plan_end {l : List Nat} {L : List Oper} {a : Act} {w : World} (hL : pick ops l = L) (h : wpQuiet P ops (Grows w) (fun a' => Q a' w) L a) : wpPlan P ops Q [] l a w := by
  subst hL; exact h
end
attribute [go_sem] calm calmUpon
end Go.Proofs.YtiijahoheajppaaGreat

namespace Go.Proofs.YtiijahoheajppaaGreat
open Go.ChangeShapes Go.WideShapes Go.ChangeAt Go.RowKit
section
variable {P : Program} {ops : Array Oper} {md : Region.Mode} {Q : Act → World → Prop} {G : World → World → Prop}
def wpPlanG (P : Program) (ops : Array Oper) (G : World → World → Prop) (Q : Act → World → Prop) : List (List Nat × Nat) → List Nat → Act → World → Prop
  | [], last, a, w => wpQuiet P ops (G w) (fun a' => Q a' w) (pick ops last) a
  | (l, h) :: r, last, a, w => wpQuiet P ops (G w) (fun a' => gOp P ops h (fun a'' w'' => G w w'' ∧ wpPlanG P ops G Q r last a'' w'') a' w) (pick ops l) a
theorem gAny_planG (hG : Rel G) (hs : Region.noSelect ops = true) (n : Nat) : ∀ (pl : List (List Nat × Nat)) (last : List Nat) (listed : Array Bool) (a : Act) (w : World), planB md ops pl last listed = true →
    wpPlanG P ops G Q pl last a w → gAny P md ops G Q (n + planLen pl last) listed a w
  | [], last, listed, a, w, hB, h => by
    simp only [planB, Bool.and_eq_true, List.isEmpty_iff] at hB
    exact gAny_lights hG hs n last listed a hB.1 h fun a' hq => gAny_more hB.2 hq n
  | (l, x) :: r, last, listed, a, w, hB, h => by
    simp only [planB, Bool.and_eq_true, beq_iff_eq] at hB
    obtain ⟨⟨hl, hr⟩, hB⟩ := hB
    have : n + planLen ((l, x) :: r) last = (n + planLen r last + 1) + l.length := by simp only [planLen]; omega
    rw [this]
    refine gAny_lights hG hs _ l listed a hl h fun a' hq => ⟨fun h0 => (by rw [hr] at h0; cases h0), fun i hi => ?_⟩
    rw [hr] at hi
    have hi : i = x := by simpa using hi
    subst hi
    exact gOp_mono (fun a'' w'' hh => ⟨Or.inr hh.1, gAny_planG hG hs n r last _ a'' w'' hB hh.2⟩) hq
theorem region_planG {id : Nat} {Q : Exit → Act → World → Prop} {a : Act} {w : World} {l : List Oper} (G : World → World → Prop) (hG : Rel G) (pl : List (List Nat × Nat)) (last : List Nat) (hm : P.follows .mixedOrders = true) (hB : regionB l.toArray pl last = true)
    (h : wpPlanG P l.toArray G (Q .normal) pl last a { w with drawn := w.drawn + 1 }) : (Code.region id l.toArray true).wp P Q a w := by
  simp only [regionB, Bool.and_eq_true, decide_eq_true_eq] at hB
  obtain ⟨⟨hs, hB⟩, hn⟩ := hB
  refine wp_region_any hm (wpAny_of_gAny (G := G) (Q := Q .normal) (fun _ _ h => h) _ _ _ _ ?_)
  have := gAny_planG (P := P) (Q := Q .normal) hG hs (l.toArray.size - planLen pl last) pl last (Array.replicate l.toArray.size false) a _ hB h
  rwa [Nat.sub_add_cancel hn] at this
theorem planG_on {l : List Nat} {L : List Oper} {i : Nat} {r : List (List Nat × Nat)} {last : List Nat} {a : Act} {w : World} (hL : pick ops l = L)
    (h : wpQuiet P ops (G w) (fun a' => gOp P ops i (fun a'' w'' => G w w'' ∧ wpPlanG P ops G Q r last a'' w'') a' w) L a) : wpPlanG P ops G Q ((l, i) :: r) last a w := by
  subst hL; exact h
theorem planG_end {l : List Nat} {L : List Oper} {a : Act} {w : World} (hL : pick ops l = L) (h : wpQuiet P ops (G w) (fun a' => Q a' w) L a) : wpPlanG P ops G Q [] l a w := by
  subst hL; exact h
end
end Go.Proofs.YtiijahoheajppaaGreat

namespace Go.Proofs.YtiijahoheajppaaGreat
open Go.ChangeShapes Go.WideShapes Go.ChangeAt Go.RowKit
section
variable {P : Program} {w : World} {ops : Array Oper} {o : Oper} {a : Act} {Q : Exit → Act → World → Prop} {rest : List Oper} {t T : TypeId} {z bytes : Nat} {zv : Value}
theorem app_lotT (hgd : o.guard = none) (s y : Operand) (ho : o.op = .call { callee := .builtin .append, args := #[s, y], argTypes := #[t, t] })
    (ht : P.underlying t = some (.slice T)) (hinfo : (P.info? T).map (fun i => (i.zero, i.size, i.bytes)) = some (some zv, z, bytes)) (hzs : zv.cells.size = z) (hsz : 0 < z) (hby : bytes ≤ 1000)
    (B : Nat) (v : Value) (xs : List (Array Value)) (hs : a.eval s = v) (hown : Got w B T z v xs) (b off c : Nat) (ys : List (Array Value)) (n : Nat) (hn : n = ys.length) (hy : a.eval y = .slice (some ⟨b, off, none⟩) n c) (hrow : RowAt w (some ⟨b, off, none⟩) z ys) (h1 : ∀ x ∈ ys, ∀ u ∈ x.toList, u.oneCell' = true) (hlen : xs.length + ys.length < 1000000000) (hB : B ≤ w.heap.size)
    (h : ∀ v' w', Got w' B T z v' (xs ++ ys) → Below B w w' → Turns (fun c => v.ownBlock = some c) w w' → wpList P ops Q rest (a.put o.dst v') w') : wpList P ops Q (o :: rest) a w := by
  subst hn
  obtain ⟨v', w', hr, h2, h3, h4⟩ := app_all ht hinfo hzs hsz hby hown hrow h1 hlen hB (c := c) o.type
  refine wpList_plain hgd fun _ hK => ?_
  unfold Oper.wp execOp
  simp only [ho, resolve, invoke, builtin, Sem.run_bind, Sem.run_pure, Result.andThen_ok, List.map_toArray, List.map_cons, List.map_nil, hs, hy, hr]
  exact hK _ _ (h v' w' h2 h3 h4)
theorem app_calmT {K : Act → World → Prop} (s y : Operand) (ho : o.op = .call { callee := .builtin .append, args := #[s, y], argTypes := #[t, t] })
    (ht : P.underlying t = some (.slice T)) (hinfo : (P.info? T).map (fun i => (i.zero, i.size, i.bytes)) = some (some zv, z, bytes)) (hzs : zv.cells.size = z) (hsz : 0 < z) (hby : bytes ≤ 1000)
    (B : Nat) (v : Value) (xs : List (Array Value)) (hs : a.eval s = v) (hown : Got w B T z v xs) (b off c : Nat) (ys : List (Array Value)) (n : Nat) (hn : n = ys.length) (hy : a.eval y = .slice (some ⟨b, off, none⟩) n c) (hrow : RowAt w (some ⟨b, off, none⟩) z ys) (h1 : ∀ x ∈ ys, ∀ u ∈ x.toList, u.oneCell' = true) (hlen : xs.length + ys.length < 1000000000) (hB : B ≤ w.heap.size)
    (h : ∀ v' w', Got w' B T z v' (xs ++ ys) → Below B w w' → Turns (fun c => v.ownBlock = some c) w w' → K (a.put o.dst v') w') : calm P o a w K := by
  subst hn
  obtain ⟨v', w', hr, h2, h3, h4⟩ := app_all ht hinfo hzs hsz hby hown hrow h1 hlen hB (c := c) o.type
  unfold calm execOp
  simp only [ho, resolve, invoke, builtin, Sem.run_bind, Sem.run_pure, Result.andThen_ok, List.map_toArray, List.map_cons, List.map_nil, hs, hy, hr, calmUpon]
  exact h v' w' h2 h3 h4
end
/-- Worlds in which the call's own bytes may have turned. -/
def Gb (B : Nat) (w w' : World) : Prop := Below B w w' ∧ Byt w w'
theorem Gb.rel (B : Nat) : Rel (Gb B) := ⟨fun _ => ⟨Below.refl _ _, Byt.refl _⟩, fun h k => ⟨Below.trans h.1 k.1, h.2.trans k.2⟩⟩
theorem Gb.refl (B : Nat) (w : World) : Gb B w w := (Gb.rel B).refl w
theorem Gb.trans {B : Nat} {a b c : World} (h : Gb B a b) (k : Gb B b c) : Gb B a c := (Gb.rel B).trans h k
theorem Gb.new {B : Nat} {w w' : World} (k : Below w.heap.size w w') (h : B ≤ w.heap.size) : Gb B w w' := ⟨k.mono h, (Byt.refl w).below k⟩
theorem Gb.got {B : Nat} {w w' : World} {v : Value} {xs : List (Array Value)} (h : Got w B 5 1 v xs) (k : Turns (fun c => v.ownBlock = some c) w w') (b : Below B w w') : Gb B w w' := ⟨b, Byt.got h k⟩

set_option maxRecDepth 100000 in
set_option maxHeartbeats 1000000 in
/-- spec.l06Word -/
theorem l06Word_any (v : Value) (B : Nat) (l : List UInt8) (s : ByteArray) (w : World) (hg : Got w B 5 1 v (l.map byX)) (hs : okWord s) (hl : l.length ≤ 1000000) (hB : B ≤ w.heap.size) :
    Calls Tryz.prog 64 #[v, .string s] w fun e w' => ∃ v', e = .returned v' ∧ Gb B w w' ∧ Got w' B 5 1 v' ((l ++ textL s).map byX) := by
  obtain ⟨a, n, c, rfl, hg⟩ := hg.lit2
  have HG : Hid (Got w B 5 1 (.slice a n c) (l.map byX)) := hg
  have hs8 := okWord_size hs
  have HWB : Hid (∀ u : World, Calls Tryz.prog 102 #[.string s] u fun e w' => ∃ v', e = .returned (.tuple #[v', .bool true]) ∧ Below u.heap.size u w' ∧ Got w' u.heap.size 5 1 v' ((textL s).map byX)) := fun u => wordBytes_spec s u (by unfold maxLen; omega) true _ (Or.inl ⟨rfl, hs, rfl⟩)
  have HX : Hid (1 ≤ (textL s).length ∧ (textL s).length ≤ 9) := by
    show _ ∧ _
    rw [textL_length]; omega
  clear hg hs
  generalize textL s = X at HWB HX ⊢
  go_enter Tryz.func64, Tryz.ntmps64
  go_wp2_with fail
  refine (HWB.out _).mono ?_
  rintro e w1 ⟨v1, rfl, b1, hg1⟩
  obtain ⟨a1, c1, rfl, _, _, hr1, _⟩ := hg1.row
  obtain ⟨b2, off2, rfl, _⟩ := hr1.bytes 0 (by have := HX.out.1; omega)
  rw [List.length_map]
  have HR1 : Hid (RowAt w1 (some ⟨b2, off2, none⟩) 1 (X.map byX)) := hr1
  have HG1 : Hid (Got w1 B 5 1 (.slice a n c) (l.map byX)) := HG.out.on b1
  have HB1 : Hid (Gb B w w1) := Gb.new b1 hB
  have hx9 := HX.out.2
  have hB1 : B ≤ w1.heap.size := Nat.le_trans hB b1.size
  clear hg1 hr1 b1
  go_wp2_with (at_builtin; refine app_lotT rfl (.tmp 12) (.tmp 13) rfl Tryz.underlying26 infoByte rfl (by decide) (by decide) B _ _ rfl HG1.out b2 off2 _ (X.map byX) X.length (by simp) rfl HR1.out (byte_one _) (by simp only [List.length_map]; omega) hB1 ?_; intro v3 w3 hg3 hb3 ht3; have HG3 : Hid (Got w3 B 5 1 v3 ((l ++ X).map byX)) := (by show Got _ _ _ _ _ _; rw [List.map_append]; exact hg3); have HB3 : Hid (Gb B w w3) := HB1.out.trans (Gb.got HG1.out ht3 hb3); clear hg3 hb3 ht3)
  go_ret
  exact ⟨_, rfl, HB3.out, HG3.out⟩

set_option maxRecDepth 100000 in
/-- spec.l06Bool -/
theorem l06Bool_any (b : Bool) (w : World) : Calls Tryz.prog 104 #[.bool b] w fun e w' => e = .returned (.int .u8 ((flagN b).toNat : Int)) ∧ w' = w := by
  cases b
  · go_enter Tryz.func104, Tryz.ntmps104
    go_wp2
    go_ret
    exact ⟨rfl, rfl⟩
  · go_enter Tryz.func104, Tryz.ntmps104
    go_wp2
    go_ret
    exact ⟨rfl, rfl⟩
end Go.Proofs.YtiijahoheajppaaGreat

namespace Go.Proofs.YtiijahoheajppaaGreat
open Go.ChangeShapes Go.WideShapes Go.ChangeAt Go.RowKit

/-- A number of some bytes off the front; 0 where they are too few. -/
def rdN (s : Nat) (l : List UInt8) : Nat := if s ≤ l.length then getF 0 (l.take s) else 0
/-- A text off the front, and what is left. -/
def rdT (l : List UInt8) : ByteArray × List UInt8 := (⟨((l.drop 1).take (rdN 1 l)).toArray⟩, (l.drop 1).drop (rdN 1 l))
/-- A value off the front, and what is left. -/
def rdV (l : List UInt8) : Vc × List UInt8 :=
  if rdN 1 l = 1 then (⟨1, (rdN 1 (l.drop 1) : Int), ⟨#[]⟩⟩, (l.drop 1).drop 1)
  else if rdN 1 l = 2 then (⟨2, if rdN 1 (l.drop 1) = 1 then -(rdN 6 ((l.drop 1).drop 1) : Int) else (rdN 6 ((l.drop 1).drop 1) : Int), ⟨#[]⟩⟩, ((l.drop 1).drop 1).drop 6)
  else if rdN 1 l = 3 then (⟨3, 0, (rdT (l.drop 1)).1⟩, (rdT (l.drop 1)).2)
  else (⟨(rdN 1 l : Int), 0, ⟨#[]⟩⟩, l.drop 1)
/-- Some values off the front, and what is left. -/
def rdVs : Nat → List UInt8 → List Vc × List UInt8
  | 0, l => ([], l)
  | n + 1, l => ((rdV l).1 :: (rdVs n (rdV l).2).1, (rdVs n (rdV l).2).2)
theorem rdN_one (c : UInt8) (r : List UInt8) : rdN 1 (c :: r) = c.toNat := by simp [rdN, getF]
theorem rdN_lt (s : Nat) (l : List UInt8) (hs : s ≤ 6) : rdN s l < 281474976710656 := by
  unfold rdN
  split
  · have h := getF_lt (l.take s) 0
    have h1 : (l.take s).length ≤ s := by simp; omega
    have h2 : 256 ^ (l.take s).length ≤ 256 ^ 6 := Nat.pow_le_pow_right (by omega) (by omega)
    have h3 : (256 : Nat) ^ 6 = 281474976710656 := by decide
    omega
  · omega
theorem rdN_byte (l : List UInt8) : rdN 1 l < 256 := by
  cases l with
  | nil => simp [rdN]
  | cons c r => rw [rdN_one]; exact c.toNat_lt
theorem getF_numR (n : Nat) : ∀ (s a : Nat), getF a (numL n s) = a * 256 ^ s + n % 256 ^ s
  | 0, a => by simp [numL, getF, Nat.mod_one]
  | s + 1, a => by
    have ih := getF_numR n s (a * 256 + (UInt8.ofNat (n / 256 ^ s)).toNat)
    show getF (a * 256 + _) (numL n s) = _
    rw [ih, dig_nat, Nat.mod_pow_succ, Nat.pow_succ, Nat.add_mul, Nat.mul_assoc a 256, Nat.mul_comm 256 (256 ^ s), Nat.mul_comm (n / 256 ^ s % 256), Nat.add_assoc, Nat.add_comm (256 ^ s * _)]
theorem rdN_six (n : Nat) (r : List UInt8) (h : n < 281474976710656) : rdN 6 (numL n 6 ++ r) = n ∧ (numL n 6 ++ r).drop 6 = r := by
  have hl := numL_length n 6
  refine ⟨?_, by rw [List.drop_append_of_le_length (by omega), List.drop_of_length_le (by omega), List.nil_append]⟩
  unfold rdN
  rw [if_pos (by rw [List.length_append]; omega), List.take_append_of_le_length (by omega), List.take_of_length_le (by omega), getF_numR, Nat.zero_mul, Nat.zero_add, Nat.mod_eq_of_lt]
  have h3 : (256 : Nat) ^ 6 = 281474976710656 := by decide
  omega
theorem rdT_text (x : ByteArray) (r : List UInt8) (h : x.size ≤ 30) : rdT (textL x ++ r) = (x, r) := by
  have h1 : rdN 1 (textL x ++ r) = x.data.toList.length := by
    rw [textL, List.cons_append, rdN_one, UInt8.toNat_ofNat', Nat.mod_eq_of_lt (by omega)]; simp
  unfold rdT
  rw [h1]
  simp [textL]
theorem noneS {x : ByteArray} (h : x.toList.isEmpty = true) : x = ⟨#[]⟩ := by
  apply WideShapes.bytes_inj
  have := size_empty h
  have h2 : x.data.toList.length = 0 := by simpa using this
  simpa using List.length_eq_zero_iff.1 h2
/-- A right value is read as it was written. -/
theorem rdV_val (c : Vc) (r : List UInt8) (h : okB c.ty c.n c.s = true) : rdV (valL c ++ r) = (c, r) := by
  obtain ⟨ty, n, x⟩ := c
  simp only at h
  have h0 := h
  unfold okB at h0
  rcases okB_ty (c := ⟨ty, n, x⟩) h with h1 | ⟨h1, h2, h3⟩ | ⟨h1, h2, h3⟩ | ⟨h1, h2⟩
  · simp only at h1
    subst h1
    simp at h0
    obtain ⟨rfl, h0⟩ := h0
    obtain rfl := noneS (x := x) (by simpa using h0)
    simp [rdV, valL, rdN_one]
  · simp only at h1 h2 h3
    subst h1
    simp at h0
    obtain ⟨_, h0⟩ := h0
    obtain rfl := noneS (x := x) (by simpa using h0)
    obtain ⟨N, rfl⟩ : ∃ N : Nat, n = (N : Int) := ⟨n.toNat, by omega⟩
    have e : (UInt8.ofNat N).toNat = N := by rw [UInt8.toNat_ofNat', Nat.mod_eq_of_lt (by omega)]
    simp [rdV, valL, rdN_one, e]
  · simp only at h1 h2 h3
    subst h1
    simp at h0
    obtain ⟨_, h0⟩ := h0
    obtain rfl := noneS (x := x) (by simpa using h0)
    have e := rdN_six n.natAbs r (by omega)
    by_cases hn : n < 0
    · have hf : flagN (decide (n < 0)) = 1 := by simp [flagN, hn]
      have : valL ⟨2, n, ⟨#[]⟩⟩ ++ r = 2 :: 1 :: (numL n.natAbs 6 ++ r) := by simp [valL, hf]
      rw [this]
      simp only [rdV, rdN_one, List.drop_succ_cons, List.drop_zero]
      rw [e.2, e.1]
      simp
      omega
    · have hf : flagN (decide (n < 0)) = 0 := by simp [flagN, hn]
      have : valL ⟨2, n, ⟨#[]⟩⟩ ++ r = 2 :: 0 :: (numL n.natAbs 6 ++ r) := by simp [valL, hf]
      rw [this]
      simp only [rdV, rdN_one, List.drop_succ_cons, List.drop_zero]
      rw [e.2, e.1]
      simp
      omega
  · simp only at h1 h2
    subst h1
    simp at h0
    obtain ⟨rfl, _⟩ := h0
    have e := rdT_text x r h2
    have : valL ⟨3, 0, x⟩ ++ r = 3 :: (textL x ++ r) := by simp [valL]
    rw [this]
    simp only [rdV, rdN_one, List.drop_succ_cons, List.drop_zero]
    rw [e]
    simp
theorem rdVs_row : ∀ (vs : List Vc) (r : List UInt8), (∀ c ∈ vs, okB c.ty c.n c.s = true) → rdVs vs.length (vs.flatMap valL ++ r) = (vs, r)
  | [], r, _ => rfl
  | c :: vs, r, h => by
    have e : (c :: vs).flatMap valL ++ r = valL c ++ (vs.flatMap valL ++ r) := by rw [List.flatMap_cons, List.append_assoc]
    have ih := rdVs_row vs r fun x hx => h x (by simp [hx])
    show ((rdV _).1 :: _, _) = _
    rw [e, rdV_val c _ (h c (by simp))]
    simp only
    rw [ih]
/-- What is read of a right row's bytes is the row. -/
theorem rdVs_rowL (vs : List Vc) (h : okRow vs) : rdVs (rdN 1 (rowL vs)) ((rowL vs).drop 1) = (vs, []) := by
  have h1 : rdN 1 (rowL vs) = vs.length := by
    rw [rowL, rdN_one, UInt8.toNat_ofNat', Nat.mod_eq_of_lt (by have := h.1; omega)]
  have := rdVs_row vs [] h.2
  rw [List.append_nil] at this
  rw [h1]
  exact this
end Go.Proofs.YtiijahoheajppaaGreat
