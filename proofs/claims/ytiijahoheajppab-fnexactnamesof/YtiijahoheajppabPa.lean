/- The place of a table in its catalog: given and landed. Names that rise, and the place of a table among them. -/
import Derived.Test.YtiijahoheajppabCtO
namespace Go.Proofs.Ytiijahoheajppab
open Go.ChangeShapes Go.WideShapes Go.ChangeAt Go.RowKit

/-- The place of the first table of that name; -1 where there is none. -/
def tabAt (ts : List Tc) (s : ByteArray) : Int := match ts.findIdx? (fun t => decide (t.name = s)) with | some i => i | .none => -1
theorem tabAt_some {ts : List Tc} {s : ByteArray} {k : Nat} (hk : k < ts.length) (he : ts[k].name = s) (hn : ∀ j (h : j < ts.length), j < k → ts[j].name ≠ s) : tabAt ts s = k := by
  have : ts.findIdx? (fun t => decide (t.name = s)) = some k := by
    rw [List.findIdx?_eq_some_iff_getElem]
    exact ⟨hk, by simpa using he, fun j hj => by simpa using hn j (by omega) hj⟩
  rw [tabAt, this]
theorem tabAt_none {ts : List Tc} {s : ByteArray} (hn : ∀ j (h : j < ts.length), ts[j].name ≠ s) : tabAt ts s = -1 := by
  have : ts.findIdx? (fun t => decide (t.name = s)) = .none := by
    rw [List.findIdx?_eq_none_iff]
    intro x hx
    obtain ⟨j, hj, rfl⟩ := List.getElem_of_mem hx
    simpa using hn j hj
  rw [tabAt, this]

set_option maxRecDepth 100000 in
set_option maxHeartbeats 1000000 in
/-- spec.l02At -/
theorem tabAt_spec (v : Value) (ts : List Tc) (s : ByteArray) (w : World) (hx : TabsV w v ts) :
    Calls Try.prog 43 #[.agg #[v], .string s] w fun e w' => e = .returned (.int .i64 (tabAt ts s)) ∧ Below w.heap.size w w' := by
  obtain ⟨a, cap, rfl, hl, hm⟩ := hx.lit
  unfold maxLen at hm
  have HX : Hid (TabsV w (.slice a ts.length cap) ts) := hx
  clear hx
  go_enter Try.func43, Try.ntmps43
  go_wp2
  go_loopw [10] (fun i wr => ∃ k : Nat, k ≤ ts.length ∧ i = .int .i64 k ∧ Below w.heap.size w wr ∧ Hid (∀ j (h : j < ts.length), j < k → ts[j].name ≠ s)) (fun i _ => ts.length - (intOf i).toNat)
  case atStart => exact ⟨0, Nat.zero_le _, rfl, (by repeat (first | with_reducible exact Below.refl _ _ | with_reducible assumption | with_reducible refine ch_alloc ?_ _ | with_reducible refine Below.drew ?_ | with_reducible refine below_draws _ ?_ | (with_reducible refine Below.setCell ?_ ?_ _; rotate_left; focus (first | with_reducible exact Nat.le_refl _ | (simp; done) | (simp; omega) | (simp at *; omega))) | with_reducible refine ch_trans ?_ (by with_reducible assumption))), fun j h hj => by omega⟩
  case round =>
    obtain ⟨k, hk, rfl, hb, HN⟩ := hrel
    by_cases hlt : k < ts.length
    · have hlti : (k : Int) < ts.length := by omega
      obtain ⟨b, off, c1, p1, c2, p2, rfl, d0, d1, d2, hx⟩ := (HX.out.on hb).tab k hlt
      clear hx
      by_cases hq : ts[k].name = s
      · have HR : Hid (tabAt ts s = k) := tabAt_some hlt hq fun j h hj => HN.out j h hj
        have hq' := str_yes hq
        clear hq
        go_wp2
        go_ret
        exact ⟨ret_i HR.out.symm, (by repeat (first | with_reducible exact Below.refl _ _ | with_reducible assumption | with_reducible refine ch_alloc ?_ _ | with_reducible refine Below.drew ?_ | with_reducible refine below_draws _ ?_ | (with_reducible refine Below.setCell ?_ ?_ _; rotate_left; focus (first | with_reducible exact Nat.le_refl _ | (simp; done) | (simp; omega) | (simp at *; omega))) | with_reducible refine ch_trans ?_ (by with_reducible assumption)))⟩
      · have HN' : Hid (∀ j (h : j < ts.length), j < k + 1 → ts[j].name ≠ s) := fun j h hj => by
          by_cases e : j = k
          · subst e; exact hq
          · exact HN.out j h (by omega)
        have hq' := str_no hq
        clear hq
        go_wp2
        go_round
        case rel => exact ⟨k + 1, by omega, by go_num, (by repeat (first | with_reducible exact Below.refl _ _ | with_reducible assumption | with_reducible refine ch_alloc ?_ _ | with_reducible refine Below.drew ?_ | with_reducible refine below_draws _ ?_ | (with_reducible refine Below.setCell ?_ ?_ _; rotate_left; focus (first | with_reducible exact Nat.le_refl _ | (simp; done) | (simp; omega) | (simp at *; omega))) | with_reducible refine ch_trans ?_ (by with_reducible assumption))), HN'⟩
        case measure => simp [intOf]; omega
    · have HR : Hid (tabAt ts s = -1) := tabAt_none fun j h => HN.out j h (by omega)
      have hlti : (ts.length : Int) ≤ k := by omega
      go_wp2
      go_ret
      exact ⟨ret_i HR.out.symm, (by repeat (first | with_reducible exact Below.refl _ _ | with_reducible assumption | with_reducible refine ch_alloc ?_ _ | with_reducible refine Below.drew ?_ | with_reducible refine below_draws _ ?_ | (with_reducible refine Below.setCell ?_ ?_ _; rotate_left; focus (first | with_reducible exact Nat.le_refl _ | (simp; done) | (simp; omega) | (simp at *; omega))) | with_reducible refine ch_trans ?_ (by with_reducible assumption)))⟩

set_option maxRecDepth 100000 in
set_option maxHeartbeats 1000000 in
/-- impl.tablePlace -/
theorem tablePlace_any (v : Value) (ts : List Tc) (s : ByteArray) (w : World) (hx : TabsV w v ts) :
    Calls Try.prog 51 #[.agg #[v], .string s] w fun e w' => ∃ (k : Nat) (q : Bool), e = .returned (.tuple #[.int .i64 k, .bool q]) ∧ Below w.heap.size w w' ∧ k ≤ ts.length ∧ (∀ j (h : j < ts.length), j < k → lessB' ts[j].name s = true) ∧ (∀ h : k < ts.length, lessB' ts[k].name s = false ∧ (q = true ↔ ts[k].name = s)) ∧ (k = ts.length → q = false) := by
  obtain ⟨a, cap, rfl, hl, hm⟩ := hx.lit
  unfold maxLen at hm
  have HX : Hid (TabsV w (.slice a ts.length cap) ts) := hx
  clear hx
  go_enter Try.func51, Try.ntmps51
  go_wp2
  go_loopw [11] (fun i wr => ∃ k : Nat, k ≤ ts.length ∧ i = .int .i64 k ∧ Below w.heap.size w wr ∧ Loc wr w.heap.size #[.slice a ts.length cap] ∧ Hid (∀ j (h : j < ts.length), j < k → lessB' ts[j].name s = true)) (fun i _ => ts.length - (intOf i).toNat)
  case atStart => exact ⟨0, Nat.zero_le _, rfl, (by repeat (first | with_reducible exact Below.refl _ _ | with_reducible assumption | with_reducible refine ch_alloc ?_ _ | with_reducible refine Below.drew ?_ | with_reducible refine below_draws _ ?_ | (with_reducible refine Below.setCell ?_ ?_ _; rotate_left; focus (first | with_reducible exact Nat.le_refl _ | (simp; done) | (simp; omega) | (simp at *; omega))) | with_reducible refine ch_trans ?_ (by with_reducible assumption))), Loc.new _ _ _, fun j h hj => by omega⟩
  case round =>
    obtain ⟨k, hk, rfl, hb, HL, HN⟩ := hrel
    have l0 := HL.one
    by_cases hlt : k < ts.length
    · have hlti : (k : Int) < ts.length := by omega
      obtain ⟨b, off, c1, p1, c2, p2, rfl, d0, d1, d2, hx⟩ := (HX.out.on hb).tab k hlt
      clear hx
      cases hle : lessB' ts[k].name s
      · have hle' : Op.bytesLess ts[k].name.toList s.toList = false := hle
        have HLE : Hid (lessB' ts[k].name s = false) := hle
        have HQ : Hid ((ts[k].name.toList == s.toList) = true ↔ ts[k].name = s) := by show _ ↔ _; rw [str_eq]; simp
        clear hle
        go_wp2
        go_region
        all_goals
          go_wp2
          exact bodyPost_ret (v := .tuple #[.int .i64 k, .bool (ts[k].name.toList == s.toList)]) (by simp [results, Try.results51, go_sem]) rfl ⟨k, _, rfl, (by repeat (first | with_reducible exact Below.refl _ _ | with_reducible assumption | with_reducible refine ch_alloc ?_ _ | with_reducible refine Below.drew ?_ | with_reducible refine below_draws _ ?_ | (with_reducible refine Below.setCell ?_ ?_ _; rotate_left; focus (first | with_reducible exact Nat.le_refl _ | (simp; done) | (simp; omega) | (simp at *; omega))) | with_reducible refine ch_trans ?_ (by with_reducible assumption))), by omega, fun j h hj => HN.out j h hj, fun _ => ⟨HLE.out, HQ.out⟩, fun e => by omega⟩
      · have hle' : Op.bytesLess ts[k].name.toList s.toList = true := hle
        have HN' : Hid (∀ j (h : j < ts.length), j < k + 1 → lessB' ts[j].name s = true) := fun j h hj => by
          by_cases e : j = k
          · subst e; exact hle
          · exact HN.out j h (by omega)
        clear hle
        go_wp2
        go_round
        case rel => exact ⟨k + 1, by omega, by go_num, (by repeat (first | with_reducible exact Below.refl _ _ | with_reducible assumption | with_reducible refine ch_alloc ?_ _ | with_reducible refine Below.drew ?_ | with_reducible refine below_draws _ ?_ | (with_reducible refine Below.setCell ?_ ?_ _; rotate_left; focus (first | with_reducible exact Nat.le_refl _ | (simp; done) | (simp; omega) | (simp at *; omega))) | with_reducible refine ch_trans ?_ (by with_reducible assumption))), HL.on1 _, HN'⟩
        case measure => simp [intOf]; omega
    · have hlti : (ts.length : Int) ≤ k := by omega
      obtain rfl : k = ts.length := by omega
      go_wp2
      exact bodyPost_ret (v := .tuple #[.int .i64 ts.length, .bool false]) (by simp [results, Try.results51, go_sem]) rfl ⟨ts.length, _, rfl, (by repeat (first | with_reducible exact Below.refl _ _ | with_reducible assumption | with_reducible refine ch_alloc ?_ _ | with_reducible refine Below.drew ?_ | with_reducible refine below_draws _ ?_ | (with_reducible refine Below.setCell ?_ ?_ _; rotate_left; focus (first | with_reducible exact Nat.le_refl _ | (simp; done) | (simp; omega) | (simp at *; omega))) | with_reducible refine ch_trans ?_ (by with_reducible assumption))), Nat.le_refl _, fun j h hj => HN.out j h hj, fun h => absurd h (Nat.lt_irrefl _), fun _ => rfl⟩
end Go.Proofs.Ytiijahoheajppab

namespace Go.Proofs.Ytiijahoheajppab
open Go.ChangeShapes Go.WideShapes Go.ChangeAt Go.RowKit

theorem less_irrefl : ∀ x : List UInt8, Op.bytesLess x x = false
  | [] => rfl
  | a :: x => by simp [Op.bytesLess, less_irrefl x]
theorem less_trans : ∀ x y z : List UInt8, Op.bytesLess x y = true → Op.bytesLess y z = true → Op.bytesLess x z = true
  | _, [], _, h, _ => by simp [Op.bytesLess] at h
  | _, _ :: _, [], _, k => by simp [Op.bytesLess] at k
  | [], _ :: _, _ :: _, _, _ => by simp [Op.bytesLess]
  | a :: x, b :: y, c :: z, h, k => by
    simp only [Op.bytesLess, Bool.or_eq_true, Bool.and_eq_true, decide_eq_true_eq, beq_iff_eq] at h k ⊢
    rcases h with h | ⟨rfl, h⟩ <;> rcases k with k | ⟨rfl, k⟩
    · exact Or.inl (UInt8.lt_trans h k)
    · exact Or.inl h
    · exact Or.inl k
    · exact Or.inr ⟨rfl, less_trans x y z h k⟩
theorem cat_rise {ts : List Tc} (h : catRight ts) : ∀ (d i : Nat) (hi : i + d + 1 < ts.length), lessB' ts[i].name ts[i + d + 1].name = true
  | 0, i, hi => h.2.2 i hi
  | d + 1, i, hi => less_trans _ _ _ (cat_rise h d i (by omega)) (h.2.2 (i + d + 1) hi)
theorem place_at {ts : List Tc} (h : catRight ts) {s : ByteArray} {k : Nat} {q : Bool} (hk : k ≤ ts.length) (h1 : ∀ j (h : j < ts.length), j < k → lessB' ts[j].name s = true) (h2 : ∀ h : k < ts.length, lessB' ts[k].name s = false ∧ (q = true ↔ ts[k].name = s)) (h3 : k = ts.length → q = false) :
    (q = true ∧ k < ts.length ∧ tabAt ts s = k) ∨ (q = false ∧ tabAt ts s = -1) := by
  have hlow : ∀ j (h : j < ts.length), j < k → ts[j].name ≠ s := fun j hj hlt e => by
    have := h1 j hj hlt
    rw [e] at this
    have h0 := less_irrefl s.toList
    unfold lessB' at this
    rw [h0] at this
    cases this
  cases q
  · refine Or.inr ⟨rfl, tabAt_none fun j hj e => ?_⟩
    rcases Nat.lt_trichotomy j k with hlt | rfl | hgt
    · exact hlow j hj hlt e
    · have := (h2 hj).2.2 e; cases this
    · have hkl : k < ts.length := by omega
      obtain ⟨d, hd⟩ : ∃ d, j = k + d + 1 := ⟨j - k - 1, by omega⟩
      subst hd
      have := cat_rise h d k hj
      rw [e] at this
      rw [(h2 hkl).1] at this
      cases this
  · have hkl : k < ts.length := by
      rcases Nat.lt_or_eq_of_le hk with h | h
      · exact h
      · have := h3 h; cases this
    exact Or.inl ⟨rfl, hkl, tabAt_some hkl ((h2 hkl).2.1 rfl) hlow⟩

theorem tabAt_lt (ts : List Tc) (s : ByteArray) : tabAt ts s = -1 ∨ ∃ i : Nat, tabAt ts s = i ∧ i < ts.length := by
  unfold tabAt
  cases h : ts.findIdx? (fun t => decide (t.name = s)) with
  | none => exact Or.inl rfl
  | some i => exact Or.inr ⟨i, rfl, (List.findIdx?_eq_some_iff_getElem.1 h).1⟩
end Go.Proofs.Ytiijahoheajppab
