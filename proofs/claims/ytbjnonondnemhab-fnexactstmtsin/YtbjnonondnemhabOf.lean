/- The place of a table in its catalog: given and landed. -/
import Derived.Test.YtbjnonondnemhabCtO
namespace Go.Proofs.Ytbjnonondnemhab
open Go.ChangeShapes Go.WideShapes Go.ChangeAt Go.RowKit

/-- The place of the first table of that name; -1 where there is none. -/
def tabAt (ts : List Tc) (s : ByteArray) : Int := match ts.findIdx? (fun t => decide (t.name = s)) with | some i => i | .none => -1
theorem tabAt_some {ts : List Tc} {s : ByteArray} {k : Nat} (hk : k < ts.length) (he : ts[k].name = s) (hn : ∀ j (h : j < ts.length), j < k → ts[j].name ≠ s) : tabAt ts s = k := by
  have : ts.findIdx? (fun t => decide (t.name = s)) = some k := by
    rw [List.findIdx?_eq_some_iff_getElem]
    exact ⟨hk, by simpa using he, fun j hj => by simpa using hn j (by omega) hj⟩
  rw [tabAt, this]
theorem tabAt_none {ts : List Tc} {s : ByteArray} (hn : ∀ j (h : j < ts.length), ts[j].name ≠ s) : tabAt ts s = -1 := by
  have : ts.findIdx? (fun t => decide (t.name = s)) = .none := by
    rw [List.findIdx?_eq_none_iff]
    intro x hx
    obtain ⟨j, hj, rfl⟩ := List.getElem_of_mem hx
    simpa using hn j hj
  rw [tabAt, this]

set_option maxRecDepth 100000 in
set_option maxHeartbeats 1000000 in
/-- spec.l02At -/
theorem tabAt_spec (v : Value) (ts : List Tc) (s : ByteArray) (w : World) (hx : TabsV w v ts) :
    Calls Try.prog 72 #[.agg #[v], .string s] w fun e w' => e = .returned (.int .i64 (tabAt ts s)) ∧ Below w.heap.size w w' := by
  obtain ⟨a, cap, rfl, hl, hm⟩ := hx.lit
  unfold maxLen at hm
  have HX : Hid (TabsV w (.slice a ts.length cap) ts) := hx
  clear hx
  go_enter Try.func72, Try.ntmps72
  go_wp2
  go_loopw [10] (fun i wr => ∃ k : Nat, k ≤ ts.length ∧ i = .int .i64 k ∧ Below w.heap.size w wr ∧ Hid (∀ j (h : j < ts.length), j < k → ts[j].name ≠ s)) (fun i _ => ts.length - (intOf i).toNat)
  case atStart => exact ⟨0, Nat.zero_le _, rfl, (by repeat (first | with_reducible exact Below.refl _ _ | with_reducible assumption | with_reducible refine ch_alloc ?_ _ | with_reducible refine Below.drew ?_ | with_reducible refine below_draws _ ?_ | (with_reducible refine Below.setCell ?_ ?_ _; rotate_left; focus (first | with_reducible exact Nat.le_refl _ | (simp; done) | (simp; omega) | (simp at *; omega))) | with_reducible refine ch_trans ?_ (by with_reducible assumption))), fun j h hj => by omega⟩
  case round =>
    obtain ⟨k, hk, rfl, hb, HN⟩ := hrel
    by_cases hlt : k < ts.length
    · have hlti : (k : Int) < ts.length := by omega
      obtain ⟨b, off, c1, p1, c2, p2, rfl, d0, d1, d2, hx⟩ := (HX.out.on hb).tab k hlt
      clear hx
      by_cases hq : ts[k].name = s
      · have HR : Hid (tabAt ts s = k) := tabAt_some hlt hq fun j h hj => HN.out j h hj
        have hq' := str_yes hq
        clear hq
        go_wp2
        go_ret
        exact ⟨ret_i HR.out.symm, (by repeat (first | with_reducible exact Below.refl _ _ | with_reducible assumption | with_reducible refine ch_alloc ?_ _ | with_reducible refine Below.drew ?_ | with_reducible refine below_draws _ ?_ | (with_reducible refine Below.setCell ?_ ?_ _; rotate_left; focus (first | with_reducible exact Nat.le_refl _ | (simp; done) | (simp; omega) | (simp at *; omega))) | with_reducible refine ch_trans ?_ (by with_reducible assumption)))⟩
      · have HN' : Hid (∀ j (h : j < ts.length), j < k + 1 → ts[j].name ≠ s) := fun j h hj => by
          by_cases e : j = k
          · subst e; exact hq
          · exact HN.out j h (by omega)
        have hq' := str_no hq
        clear hq
        go_wp2
        go_round
        case rel => exact ⟨k + 1, by omega, by go_num, (by repeat (first | with_reducible exact Below.refl _ _ | with_reducible assumption | with_reducible refine ch_alloc ?_ _ | with_reducible refine Below.drew ?_ | with_reducible refine below_draws _ ?_ | (with_reducible refine Below.setCell ?_ ?_ _; rotate_left; focus (first | with_reducible exact Nat.le_refl _ | (simp; done) | (simp; omega) | (simp at *; omega))) | with_reducible refine ch_trans ?_ (by with_reducible assumption))), HN'⟩
        case measure => simp [intOf]; omega
    · have HR : Hid (tabAt ts s = -1) := tabAt_none fun j h => HN.out j h (by omega)
      have hlti : (ts.length : Int) ≤ k := by omega
      go_wp2
      go_ret
      exact ⟨ret_i HR.out.symm, (by repeat (first | with_reducible exact Below.refl _ _ | with_reducible assumption | with_reducible refine ch_alloc ?_ _ | with_reducible refine Below.drew ?_ | with_reducible refine below_draws _ ?_ | (with_reducible refine Below.setCell ?_ ?_ _; rotate_left; focus (first | with_reducible exact Nat.le_refl _ | (simp; done) | (simp; omega) | (simp at *; omega))) | with_reducible refine ch_trans ?_ (by with_reducible assumption)))⟩

set_option maxRecDepth 100000 in
set_option maxHeartbeats 1000000 in
/-- impl.tablePlace -/
theorem tablePlace_any (v : Value) (ts : List Tc) (s : ByteArray) (w : World) (hx : TabsV w v ts) :
    Calls Try.prog 80 #[.agg #[v], .string s] w fun e w' => ∃ (k : Nat) (q : Bool), e = .returned (.tuple #[.int .i64 k, .bool q]) ∧ Below w.heap.size w w' ∧ k ≤ ts.length ∧ (∀ j (h : j < ts.length), j < k → lessB' ts[j].name s = true) ∧ (∀ h : k < ts.length, lessB' ts[k].name s = false ∧ (q = true ↔ ts[k].name = s)) ∧ (k = ts.length → q = false) := by
  obtain ⟨a, cap, rfl, hl, hm⟩ := hx.lit
  unfold maxLen at hm
  have HX : Hid (TabsV w (.slice a ts.length cap) ts) := hx
  clear hx
  go_enter Try.func80, Try.ntmps80
  go_wp2
  go_loopw [11] (fun i wr => ∃ k : Nat, k ≤ ts.length ∧ i = .int .i64 k ∧ Below w.heap.size w wr ∧ Loc wr w.heap.size #[.slice a ts.length cap] ∧ Hid (∀ j (h : j < ts.length), j < k → lessB' ts[j].name s = true)) (fun i _ => ts.length - (intOf i).toNat)
  case atStart => exact ⟨0, Nat.zero_le _, rfl, (by repeat (first | with_reducible exact Below.refl _ _ | with_reducible assumption | with_reducible refine ch_alloc ?_ _ | with_reducible refine Below.drew ?_ | with_reducible refine below_draws _ ?_ | (with_reducible refine Below.setCell ?_ ?_ _; rotate_left; focus (first | with_reducible exact Nat.le_refl _ | (simp; done) | (simp; omega) | (simp at *; omega))) | with_reducible refine ch_trans ?_ (by with_reducible assumption))), Loc.new _ _ _, fun j h hj => by omega⟩
  case round =>
    obtain ⟨k, hk, rfl, hb, HL, HN⟩ := hrel
    have l0 := HL.one
    by_cases hlt : k < ts.length
    · have hlti : (k : Int) < ts.length := by omega
      obtain ⟨b, off, c1, p1, c2, p2, rfl, d0, d1, d2, hx⟩ := (HX.out.on hb).tab k hlt
      clear hx
      cases hle : lessB' ts[k].name s
      · have hle' : Op.bytesLess ts[k].name.toList s.toList = false := hle
        have HLE : Hid (lessB' ts[k].name s = false) := hle
        have HQ : Hid ((ts[k].name.toList == s.toList) = true ↔ ts[k].name = s) := by show _ ↔ _; rw [str_eq]; simp
        clear hle
        go_wp2
        go_region
        all_goals
          go_wp2
          exact bodyPost_ret (v := .tuple #[.int .i64 k, .bool (ts[k].name.toList == s.toList)]) (by simp [results, Try.results80, go_sem]) rfl ⟨k, _, rfl, (by repeat (first | with_reducible exact Below.refl _ _ | with_reducible assumption | with_reducible refine ch_alloc ?_ _ | with_reducible refine Below.drew ?_ | with_reducible refine below_draws _ ?_ | (with_reducible refine Below.setCell ?_ ?_ _; rotate_left; focus (first | with_reducible exact Nat.le_refl _ | (simp; done) | (simp; omega) | (simp at *; omega))) | with_reducible refine ch_trans ?_ (by with_reducible assumption))), by omega, fun j h hj => HN.out j h hj, fun _ => ⟨HLE.out, HQ.out⟩, fun e => by omega⟩
      · have hle' : Op.bytesLess ts[k].name.toList s.toList = true := hle
        have HN' : Hid (∀ j (h : j < ts.length), j < k + 1 → lessB' ts[j].name s = true) := fun j h hj => by
          by_cases e : j = k
          · subst e; exact hle
          · exact HN.out j h (by omega)
        clear hle
        go_wp2
        go_round
        case rel => exact ⟨k + 1, by omega, by go_num, (by repeat (first | with_reducible exact Below.refl _ _ | with_reducible assumption | with_reducible refine ch_alloc ?_ _ | with_reducible refine Below.drew ?_ | with_reducible refine below_draws _ ?_ | (with_reducible refine Below.setCell ?_ ?_ _; rotate_left; focus (first | with_reducible exact Nat.le_refl _ | (simp; done) | (simp; omega) | (simp at *; omega))) | with_reducible refine ch_trans ?_ (by with_reducible assumption))), HL.on1 _, HN'⟩
        case measure => simp [intOf]; omega
    · have hlti : (ts.length : Int) ≤ k := by omega
      obtain rfl : k = ts.length := by omega
      go_wp2
      exact bodyPost_ret (v := .tuple #[.int .i64 ts.length, .bool false]) (by simp [results, Try.results80, go_sem]) rfl ⟨ts.length, _, rfl, (by repeat (first | with_reducible exact Below.refl _ _ | with_reducible assumption | with_reducible refine ch_alloc ?_ _ | with_reducible refine Below.drew ?_ | with_reducible refine below_draws _ ?_ | (with_reducible refine Below.setCell ?_ ?_ _; rotate_left; focus (first | with_reducible exact Nat.le_refl _ | (simp; done) | (simp; omega) | (simp at *; omega))) | with_reducible refine ch_trans ?_ (by with_reducible assumption))), Nat.le_refl _, fun j h hj => HN.out j h hj, fun h => absurd h (Nat.lt_irrefl _), fun _ => rfl⟩
end Go.Proofs.Ytbjnonondnemhab
