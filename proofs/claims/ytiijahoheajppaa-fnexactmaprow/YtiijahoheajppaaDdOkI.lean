/- Names told plainly: no name twice, all among others; the given loops; the names of a right table's keys. Changes in memory: the laws' size, copy and look. Whether a change is right: the given DdlOk. Whether a change is right: the landed DdlOk. -/
import Derived.Test.YtiijahoheajppaaNq
import Derived.Test.YtiijahoheajppaaNc
import Derived.Test.YtiijahoheajppaaTab
import Derived.Test.YtiijahoheajppaaTbOkS
import Derived.Test.YtiijahoheajppaaTbOkI
namespace Go.Proofs.Ytiijahoheajppaa
open Go.ChangeShapes Go.WideShapes Go.ChangeAt Go.RowKit

theorem RowAt.takes {w : World} {a : Option Addr} {ks : List ByteArray} (h : RowAt w a 1 (ks.map strX)) (k : Nat) : RowAt w a 1 ((ks.take k).map strX) := by
  obtain ⟨hz, h⟩ := h
  refine ⟨fun x hx => ?_, ?_⟩
  · obtain ⟨s, _, rfl⟩ := List.mem_map.1 hx; rfl
  · rcases h with h0 | ⟨b, off, ha, h⟩
    · rw [List.map_eq_nil_iff] at h0; subst h0; exact Or.inl (by simp)
    · refine Or.inr ⟨b, off, ha, fun i hi j hj => ?_⟩
      have hi' : i < (ks.map strX).length := by simp at hi ⊢; omega
      have := h i hi' j hj
      rw [this]
      simp
theorem keys_nodup {t : Tc} (h : t.right) : t.keys.Nodup := by
  have hg := h.2.2.2.2.2.2
  have hl : ∀ j, j ≤ t.keys.length → ∀ i (hi : i < t.keys.length), i < j → colAt t.cols t.keys[i] ≤ lastAt t.cols t.keys j := by
    intro j
    induction j with
    | zero => intro _ i _ h; omega
    | succ j ih =>
      intro hj i hi hij
      rw [lastAt_succ (by omega)]
      have h1 := (hg j (by omega)).1
      by_cases e : i = j
      · subst e; exact Int.le_refl _
      · have := ih (by omega) i hi (by omega)
        omega
  unfold List.Nodup
  rw [List.pairwise_iff_getElem]
  intro i j hi hj hij e
  have h1 := hl j (by omega) i hi hij
  have h2 := (hg j hj).1
  rw [e] at h1
  omega
theorem names_once {t : Tc} (h : t.right) : (colNames t).Nodup := by
  unfold List.Nodup
  rw [List.pairwise_iff_getElem]
  intro i j hi hj hij e
  simp only [colNames, List.length_map] at hi hj
  have hc := h.2.2.2.2.2.1
  have h1 := hc i hi
  have h2 := hc j hj
  simp only [colNames, List.getElem_map] at e
  rw [e, h2] at h1
  omega
/-- Where a name is a column's. -/
theorem colAt_names (t : Tc) (s : ByteArray) : (s ∈ colNames t ∧ 0 ≤ colAt t.cols s) ∨ (s ∉ colNames t ∧ colAt t.cols s = -1) := by
  unfold colNames colAt
  cases hf : t.cols.findIdx? (fun c => decide (c.name = s)) with
  | none =>
    refine Or.inr ⟨fun h => ?_, rfl⟩
    obtain ⟨c, hc, e⟩ := List.mem_map.1 h
    have := List.findIdx?_eq_none_iff.1 hf c hc
    simp [e] at this
  | some i =>
    obtain ⟨hi, he, _⟩ := List.findIdx?_eq_some_iff_getElem.1 hf
    exact Or.inl ⟨List.mem_map.2 ⟨t.cols[i], List.getElem_mem hi, by simpa using he⟩, by simp⟩

set_option maxRecDepth 100000 in
set_option maxHeartbeats 1000000 in
/-- spec.l02Has -/
theorem l02HasN_any (kv : Value) (ks : List ByteArray) (s : ByteArray) (w : World) (hc : StrsV w kv ks) :
    Calls Try.prog 33 #[kv, .string s] w fun e w' => ∃ q : Bool, e = .returned (.bool q) ∧ (q = true ↔ s ∈ ks) ∧ Below w.heap.size w w' := by
  obtain ⟨a, cap, rfl, hl, hm, hc⟩ := hc
  unfold maxLen at hm
  have HC : Hid (RowAt w a 1 (ks.map strX)) := hc
  clear hc
  go_enter Try.func33, Try.ntmps33
  go_wp2
  go_loopw [9] (fun i wr => ∃ k : Nat, k ≤ ks.length ∧ i = .int .i64 k ∧ Below w.heap.size w wr ∧ Hid (∀ j (h : j < ks.length), j < k → ks[j] ≠ s)) (fun i _ => ks.length - (intOf i).toNat)
  case atStart => exact ⟨0, Nat.zero_le _, rfl, (by repeat (first | with_reducible exact Below.refl _ _ | with_reducible assumption | with_reducible refine ch_alloc ?_ _ | with_reducible refine Below.drew ?_ | with_reducible refine below_draws _ ?_ | (with_reducible refine Below.setCell ?_ ?_ _; rotate_left; focus (first | with_reducible exact Nat.le_refl _ | (simp; done) | (simp; omega) | (simp at *; omega))) | with_reducible refine ch_trans ?_ (by with_reducible assumption))), fun j h hj => by omega⟩
  case round =>
    obtain ⟨k, hk, rfl, hb, HN⟩ := hrel
    by_cases hlt : k < ks.length
    · have hlti : (k : Int) < ks.length := by omega
      obtain ⟨b, off, rfl, c0⟩ := (HC.out.on hb).strs k hlt
      by_cases hq : ks[k] = s
      · have HR : Hid (s ∈ ks) := hq ▸ List.getElem_mem hlt
        have hq' := str_yes hq
        clear hq
        go_wp2
        go_ret
        exact ⟨_, rfl, ⟨fun _ => HR.out, fun _ => rfl⟩, (by repeat (first | with_reducible exact Below.refl _ _ | with_reducible assumption | with_reducible refine ch_alloc ?_ _ | with_reducible refine Below.drew ?_ | with_reducible refine below_draws _ ?_ | (with_reducible refine Below.setCell ?_ ?_ _; rotate_left; focus (first | with_reducible exact Nat.le_refl _ | (simp; done) | (simp; omega) | (simp at *; omega))) | with_reducible refine ch_trans ?_ (by with_reducible assumption)))⟩
      · have HN' : Hid (∀ j (h : j < ks.length), j < k + 1 → ks[j] ≠ s) := fun j h hj => by
          by_cases e : j = k
          · subst e; exact hq
          · exact HN.out j h (by omega)
        have hq' := str_no hq
        clear hq
        go_wp2
        go_round
        case rel => exact ⟨k + 1, by omega, by go_num, (by repeat (first | with_reducible exact Below.refl _ _ | with_reducible assumption | with_reducible refine ch_alloc ?_ _ | with_reducible refine Below.drew ?_ | with_reducible refine below_draws _ ?_ | (with_reducible refine Below.setCell ?_ ?_ _; rotate_left; focus (first | with_reducible exact Nat.le_refl _ | (simp; done) | (simp; omega) | (simp at *; omega))) | with_reducible refine ch_trans ?_ (by with_reducible assumption))), HN'⟩
        case measure => simp [intOf]; omega
    · have hlti : (ks.length : Int) ≤ k := by omega
      have HR : Hid (s ∉ ks) := fun hm => by
        obtain ⟨j, hj, e⟩ := List.getElem_of_mem hm
        exact HN.out j hj (by omega) e
      go_wp2
      go_ret
      exact ⟨_, rfl, ⟨fun h => by simp at h, fun h => absurd h HR.out⟩, (by repeat (first | with_reducible exact Below.refl _ _ | with_reducible assumption | with_reducible refine ch_alloc ?_ _ | with_reducible refine Below.drew ?_ | with_reducible refine below_draws _ ?_ | (with_reducible refine Below.setCell ?_ ?_ _; rotate_left; focus (first | with_reducible exact Nat.le_refl _ | (simp; done) | (simp; omega) | (simp at *; omega))) | with_reducible refine ch_trans ?_ (by with_reducible assumption)))⟩

set_option maxRecDepth 100000 in
set_option maxHeartbeats 1000000 in
/-- spec.l10Once -/
theorem l10Once_any (kv : Value) (ks : List ByteArray) (w : World) (hc : StrsV w kv ks) :
    Calls Try.prog 30 #[kv] w fun e w' => ∃ q : Bool, e = .returned (.bool q) ∧ (q = true ↔ ks.Nodup) ∧ Below w.heap.size w w' := by
  obtain ⟨a, cap, rfl, hl, hm, hc⟩ := hc
  unfold maxLen at hm
  have HC : Hid (RowAt w a 1 (ks.map strX)) := hc
  clear hc
  go_enter Try.func30, Try.ntmps30
  go_wp2
  go_loopw [7] (fun i wr => ∃ k : Nat, k ≤ ks.length ∧ i = .int .i64 k ∧ Below w.heap.size w wr ∧ Hid (∀ j (h : j < ks.length), j < k → ks[j] ∉ ks.take j)) (fun i _ => ks.length - (intOf i).toNat)
  case atStart => exact ⟨0, Nat.zero_le _, rfl, Below.refl _ _, fun j h hj => by omega⟩
  case round =>
    obtain ⟨k, hk, rfl, hb, HN⟩ := hrel
    by_cases hlt : k < ks.length
    · have hlti : (k : Int) < ks.length := by omega
      have hkc : (k : Int) ≤ cap := by omega
      obtain ⟨b, off, rfl, c0⟩ := (HC.out.on hb).strs k hlt
      have HS : Hid (∀ u : World, Below wr.heap.size wr u → Calls Try.prog 33 #[.slice (some ⟨b, off, none⟩) k cap, .string ks[k]] u fun e w' => ∃ q : Bool, e = .returned (.bool q) ∧ (q = true ↔ ks[k] ∈ ks.take k) ∧ Below u.heap.size u w') := fun u hu => l02HasN_any _ (ks.take k) ks[k] u ⟨some ⟨b, off, none⟩, cap, by simp; omega, by simp; omega, by unfold maxLen; omega, ((HC.out.on hb).on hu).takes k⟩
      go_wp2_with fail
      refine (HS.out _ (Below.refl _ _)).mono ?_
      rintro e w1 ⟨q, rfl, h1, b1⟩
      have hb1 := ch_trans hb b1
      cases q
      · have HN' : Hid (∀ j (h : j < ks.length), j < k + 1 → ks[j] ∉ ks.take j) := fun j h hj => by
          by_cases e : j = k
          · subst e; exact fun h => by have := h1.2 h; cases this
          · exact HN.out j h (by omega)
        clear h1
        go_wp2
        go_round
        case rel => exact ⟨k + 1, by omega, by go_num, hb1, HN'⟩
        case measure => simp [intOf]; omega
      · have HR : Hid (¬ ks.Nodup) := fun h => (nodup_takes ks).1 h k hlt (h1.1 rfl)
        clear h1
        go_wp2
        go_ret
        exact ⟨_, rfl, ⟨fun h => by simp at h, fun h => absurd h HR.out⟩, hb1⟩
    · have hlti : (ks.length : Int) ≤ k := by omega
      have HR : Hid ks.Nodup := (nodup_takes ks).2 fun j h => HN.out j h (by omega)
      go_wp2
      go_ret
      exact ⟨_, rfl, ⟨fun _ => HR.out, fun _ => rfl⟩, hb⟩

set_option maxRecDepth 100000 in
set_option maxHeartbeats 1000000 in
/-- spec.l10All -/
theorem l10All_any (kv lv : Value) (ks ls : List ByteArray) (w : World) (hc : StrsV w kv ks) (hl : StrsV w lv ls) :
    Calls Try.prog 31 #[kv, lv] w fun e w' => ∃ q : Bool, e = .returned (.bool q) ∧ (q = true ↔ ∀ s ∈ ks, s ∈ ls) ∧ Below w.heap.size w w' := by
  have HS : Hid (∀ (u : World) (s : ByteArray), Below w.heap.size w u → Calls Try.prog 33 #[lv, .string s] u fun e w' => ∃ q : Bool, e = .returned (.bool q) ∧ (q = true ↔ s ∈ ls) ∧ Below u.heap.size u w') := fun u s hu => l02HasN_any lv ls s u (hl.on hu)
  obtain ⟨a, cap, rfl, h1, hm, hc⟩ := hc
  obtain ⟨a', cap', rfl, _, _, _⟩ := hl
  unfold maxLen at hm
  have HC : Hid (RowAt w a 1 (ks.map strX)) := hc
  clear hc
  go_enter Try.func31, Try.ntmps31
  go_wp2
  go_loopw [9] (fun i wr => ∃ k : Nat, k ≤ ks.length ∧ i = .int .i64 k ∧ Below w.heap.size w wr ∧ Hid (∀ j (h : j < ks.length), j < k → ks[j] ∈ ls)) (fun i _ => ks.length - (intOf i).toNat)
  case atStart => exact ⟨0, Nat.zero_le _, rfl, Below.refl _ _, fun j h hj => by omega⟩
  case round =>
    obtain ⟨k, hk, rfl, hb, HN⟩ := hrel
    by_cases hlt : k < ks.length
    · have hlti : (k : Int) < ks.length := by omega
      obtain ⟨b, off, rfl, c0⟩ := (HC.out.on hb).strs k hlt
      go_wp2_with fail
      refine (HS.out _ _ hb).mono ?_
      rintro e w1 ⟨q, rfl, h1, b1⟩
      have hb1 := ch_trans hb b1
      cases q
      · have HR : Hid (¬ ∀ s ∈ ks, s ∈ ls) := fun h => by have := h1.2 (h _ (List.getElem_mem hlt)); cases this
        clear h1
        go_wp2
        go_ret
        exact ⟨_, rfl, ⟨fun h => by simp at h, fun h => absurd h HR.out⟩, hb1⟩
      · have HN' : Hid (∀ j (h : j < ks.length), j < k + 1 → ks[j] ∈ ls) := fun j h hj => by
          by_cases e : j = k
          · subst e; exact h1.1 rfl
          · exact HN.out j h (by omega)
        clear h1
        go_wp2
        go_round
        case rel => exact ⟨k + 1, by omega, by go_num, hb1, HN'⟩
        case measure => simp [intOf]; omega
    · have hlti : (ks.length : Int) ≤ k := by omega
      have HR : Hid (∀ s ∈ ks, s ∈ ls) := fun s hs => by
        obtain ⟨j, hj, rfl⟩ := List.getElem_of_mem hs
        exact HN.out j hj (by omega)
      go_wp2
      go_ret
      exact ⟨_, rfl, ⟨fun _ => HR.out, fun _ => rfl⟩, hb⟩
end Go.Proofs.Ytiijahoheajppaa

namespace Go.Proofs.Ytiijahoheajppaa
open Go.ChangeShapes Go.WideShapes Go.ChangeAt Go.RowKit

/-- What a change holds. -/
structure Dc where
  kind : Int
  table : ByteArray
  cols : List Cl
  keys : List ByteArray
  name : ByteArray
  to : ByteArray
def Dc.fit (d : Dc) : Prop := d.table.size ≤ maxLen ∧ (∀ c ∈ d.cols, c.name.size ≤ maxLen ∧ c.ds.size ≤ maxLen) ∧ (∀ s ∈ d.keys, s.size ≤ maxLen) ∧ d.name.size ≤ maxLen ∧ d.to.size ≤ maxLen
def Dc.few (d : Dc) : Prop := d.cols.length ≤ 1048576 ∧ d.keys.length ≤ 1048576
/-- A change's cells. -/
def DdlV (w : World) (x : Array Value) (d : Dc) : Prop := ∃ cv kv, x = #[.int .i64 d.kind, .string d.table, cv, kv, .string d.name, .string d.to] ∧ ColsV w cv d.cols ∧ StrsV w kv d.keys
theorem DdlV.on {w w' : World} {x : Array Value} {d : Dc} (h : DdlV w x d) (b : Below w.heap.size w w') : DdlV w' x d := by
  obtain ⟨cv, kv, e, h1, h2⟩ := h; exact ⟨cv, kv, e, h1.on b, h2.on b⟩
theorem DdlV.lit {w : World} {x : Array Value} {t : Dc} (h : DdlV w x t) : ∃ a p b q, x = #[.int .i64 t.kind, .string t.table, .slice a t.cols.length p, .slice b t.keys.length q, .string t.name, .string t.to] ∧ DdlV w #[.int .i64 t.kind, .string t.table, .slice a t.cols.length p, .slice b t.keys.length q, .string t.name, .string t.to] t ∧ ColsV w (.slice a t.cols.length p) t.cols ∧ StrsV w (.slice b t.keys.length q) t.keys := by
  obtain ⟨cv, kv, rfl, hc, hk⟩ := h
  obtain ⟨a, p, rfl, hc'⟩ := id hc
  obtain ⟨b, q, rfl, hk'⟩ := id hk
  exact ⟨a, p, b, q, rfl, ⟨_, _, rfl, hc, hk⟩, hc, hk⟩

end Go.Proofs.Ytiijahoheajppaa

namespace Go.Proofs.Ytiijahoheajppaa
open Go.ChangeShapes Go.WideShapes Go.ChangeAt Go.RowKit

/-- A text is empty. -/
def noneB (s : ByteArray) : Bool := s.toList.isEmpty
/-- A change is right. -/
def Dc.right (d : Dc) : Prop := wordB d.table = true ∧
  ((d.kind = 1 ∧ noneB d.name = true ∧ noneB d.to = true ∧ Tc.right ⟨d.table, d.cols, d.keys⟩) ∨
  (d.kind = 2 ∧ d.cols.length = 0 ∧ d.keys.length = 0 ∧ noneB d.name = true ∧ noneB d.to = true) ∨
  (d.kind = 3 ∧ d.cols.length = 1 ∧ (∀ (h : 0 < d.cols.length), d.cols[0].ok = true ∧ (d.cols[0].has = true ∨ d.cols[0].nt = false)) ∧ d.keys.length = 0 ∧ noneB d.name = true ∧ noneB d.to = true) ∨
  (d.kind = 4 ∧ d.cols.length = 0 ∧ d.keys.length = 0 ∧ wordB d.name = true ∧ noneB d.to = true) ∨
  (d.kind = 5 ∧ d.cols.length = 0 ∧ d.keys.length = 0 ∧ wordB d.name = true ∧ wordB d.to = true))

end Go.Proofs.Ytiijahoheajppaa

namespace Go.Proofs.Ytiijahoheajppaa
open Go.ChangeShapes Go.WideShapes Go.ChangeAt Go.RowKit

set_option maxRecDepth 100000 in
set_option maxHeartbeats 1000000 in
/-- impl.mayComeLater -/
theorem later_any (c : Cl) (w : World) (hn : c.name.size ≤ maxLen) : Calls Try.prog 41 #[c.v] w fun e w' => e = .returned (.bool (c.ok && (c.has || !c.nt))) ∧ Below w.heap.size w w' := by
  have HS : Hid (∀ w : World, Calls Try.prog 60 #[c.v] w fun e w' => e = .returned (.bool c.ok) ∧ Below w.heap.size w w') := fun w => colOk_impl c w hn
  clear hn
  have HL := Loc.new w c.cells 60
  generalize c.ok = k at HS
  obtain ⟨cn, ct, cnt, chas, cdt, cdn, cds⟩ := c
  cases k <;> cases cnt <;> cases chas
  all_goals
    go_enter Try.func41, Try.ntmps41
    go_wp2_with (go_at_call 60; refine (HS.out _).mono ?_; rintro e w1 ⟨rfl, b1⟩; have HL1 := HL.on b1; obtain ⟨l0, l1, l2, l3, l4, l5, l6⟩ := HL1.seven)
    go_ret
    exact ⟨rfl, (by repeat (first | with_reducible exact Below.refl _ _ | with_reducible assumption | with_reducible refine ch_alloc ?_ _ | with_reducible refine Below.drew ?_ | with_reducible refine below_draws _ ?_ | (with_reducible refine Below.setCell ?_ ?_ _; rotate_left; focus (first | with_reducible exact Nat.le_refl _ | (simp; done) | (simp; omega) | (simp at *; omega))) | with_reducible refine ch_trans ?_ (by with_reducible assumption)))⟩

end Go.Proofs.Ytiijahoheajppaa
