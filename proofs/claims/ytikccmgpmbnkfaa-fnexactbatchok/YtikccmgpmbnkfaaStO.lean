/- Whether a statement is right, given and landed. -/
import Derived.Test.YtikccmgpmbnkfaaSt
import Derived.Test.YtikccmgpmbnkfaaDdOkS
import Derived.Test.YtikccmgpmbnkfaaDdOkI
import Derived.Test.YtikccmgpmbnkfaaSv
import Derived.Test.YtikccmgpmbnkfaaSv
import Derived.Test.YtikccmgpmbnkfaaSv
namespace Go.Proofs.Ytikccmgpmbnkfaa
open Go.ChangeShapes Go.WideShapes Go.ChangeAt Go.RowKit

/-- No change. -/
def Dc.nil (d : Dc) : Prop := d.kind = 0 ∧ noneB d.table = true ∧ d.cols.length = 0 ∧ d.keys.length = 0 ∧ noneB d.name = true ∧ noneB d.to = true
/-- A statement is right. -/
def Sc.right (s : Sc) : Prop := wordB s.table = true ∧
  ((s.kind = 1 ∧ s.key.length = 0 ∧ someV s.row ∧ s.ddl.nil) ∨
  (s.kind = 2 ∧ someV s.key ∧ someV s.row ∧ s.ddl.nil) ∨
  (s.kind = 3 ∧ someV s.key ∧ s.row.length = 0 ∧ s.ddl.nil) ∨
  (s.kind = 4 ∧ s.key.length = 0 ∧ s.row.length = 0 ∧ s.ddl.nil) ∨
  (s.kind = 5 ∧ s.key.length = 0 ∧ s.row.length = 0 ∧ s.ddl.right ∧ s.ddl.table = s.table))

set_option maxRecDepth 100000 in
set_option maxHeartbeats 1000000 in
/-- spec.l04Vals -/
theorem someV_spec (v : Value) (l : List Vc) (w : World) (hv : ValsV w v l) : Calls Try.prog 60 #[v] w fun e w' => ∃ q : Bool, e = .returned (.bool q) ∧ (q = true ↔ someV l) ∧ Below w.heap.size w w' := by
  obtain ⟨a, p, rfl, hl, hm, hv⟩ := hv.lit
  unfold maxLen at hm
  have HV : Hid (ValsV w (.slice a l.length p) l) := hv
  clear hv
  go_enter Try.func60, Try.ntmps60
  go_wp2
  go_loopw [7] (fun i wr => ∃ k : Nat, k ≤ l.length ∧ i = .int .i64 k ∧ Below w.heap.size w wr ∧ Hid (∀ i (h : i < l.length), i < k → okB l[i].ty l[i].n l[i].s = true)) (fun i _ => l.length - (intOf i).toNat)
  case atStart => exact ⟨0, Nat.zero_le _, rfl, (by repeat (first | with_reducible exact Below.refl _ _ | with_reducible assumption | with_reducible refine ch_alloc ?_ _ | with_reducible refine Below.drew ?_ | with_reducible refine below_draws _ ?_ | (with_reducible refine Below.setCell ?_ ?_ _; rotate_left; focus (first | with_reducible exact Nat.le_refl _ | (simp; done) | (simp; omega) | (simp at *; omega))) | with_reducible refine ch_trans ?_ (by with_reducible assumption))), fun i h hi => by omega⟩
  case round =>
    obtain ⟨k, hk, rfl, hb, HN⟩ := hrel
    by_cases hlt : k < l.length
    · have hlti : (k : Int) < l.length := by omega
      obtain ⟨b, off, rfl, d0, d1, d2⟩ := (HV.out.on hb).row.vals k hlt
      have HS : Hid (∀ u : World, Calls Try.prog 91 #[V l[k].ty l[k].n l[k].s] u fun e w' => e = .returned (.bool (okB l[k].ty l[k].n l[k].s)) ∧ Below u.heap.size u w') := fun u => (ok_spec _ _ _ u).mono fun e w' ⟨h1, h2⟩ => ⟨h1, by rw [h2]; exact ch_alloc (Below.refl _ _) _⟩
      have HE : Hid (someV l → okB l[k].ty l[k].n l[k].s = true) := fun h => h.2.2 k hlt
      have HG : Hid (okB l[k].ty l[k].n l[k].s = true → ∀ i (h : i < l.length), i < k + 1 → okB l[i].ty l[i].n l[i].s = true) := fun hq i h hi => by
        by_cases e : i = k
        · subst e; exact hq
        · exact HN.out i h (by omega)
      generalize okB l[k].ty l[k].n l[k].s = q at HS HE HG
      go_wp2_with fail
      refine (HS.out _).mono ?_
      rintro e w1 ⟨rfl, b1⟩
      have hb1 : Below w.heap.size w w1 := (by repeat (first | with_reducible exact Below.refl _ _ | with_reducible assumption | with_reducible refine ch_alloc ?_ _ | with_reducible refine Below.drew ?_ | with_reducible refine below_draws _ ?_ | (with_reducible refine Below.setCell ?_ ?_ _; rotate_left; focus (first | with_reducible exact Nat.le_refl _ | (simp; done) | (simp; omega) | (simp at *; omega))) | with_reducible refine ch_trans ?_ (by with_reducible assumption)))
      clear b1
      cases q
      · have HB : Hid (¬ someV l) := fun h => by have := HE.out h; cases this
        go_wp2
        go_ret
        exact ⟨_, rfl, ⟨fun h => by simp at h, fun h => absurd h HB.out⟩, hb1⟩
      · have HN' : Hid (∀ i (h : i < l.length), i < k + 1 → okB l[i].ty l[i].n l[i].s = true) := HG.out rfl
        go_wp2
        go_round
        case rel => exact ⟨k + 1, by omega, by go_num, hb1, HN'⟩
        case measure => simp [intOf]; omega
    · have hlti : (l.length : Int) ≤ k := by omega
      have HA : Hid (∀ i (h : i < l.length), okB l[i].ty l[i].n l[i].s = true) := fun i h => HN.out i h (by omega)
      by_cases h1 : 1 ≤ l.length
      · have h1' : decide ((1 : Int) ≤ l.length) = true := by simp; omega
        have h1n : decide (1 ≤ l.length) = true := by simp; omega
        by_cases h8 : l.length ≤ 8
        · have h8' : decide ((l.length : Int) ≤ 8) = true := by simp; omega
          have h8n : decide (l.length ≤ 8) = true := by simp; omega
          have HY : Hid (someV l) := ⟨h1, h8, HA.out⟩
          clear h1 h8
          go_wp2
          go_ret
          exact ⟨_, rfl, ⟨fun _ => HY.out, fun _ => rfl⟩, hb⟩
        · have h8' : decide ((l.length : Int) ≤ 8) = false := by simp; omega
          have HB : Hid (¬ someV l) := fun h => h8 h.2.1
          clear h1 h8
          go_wp2
          go_ret
          exact ⟨_, rfl, ⟨fun h => by simp at h, fun h => absurd h HB.out⟩, hb⟩
      · have h1' : decide ((1 : Int) ≤ l.length) = false := by simp; omega
        have HB : Hid (¬ someV l) := fun h => h1 h.1
        clear h1
        go_wp2
        go_ret
        exact ⟨_, rfl, ⟨fun h => by simp at h, fun h => absurd h HB.out⟩, hb⟩

def Dc.nilB (d : Dc) : Bool := decide (d.kind = 0) && noneB d.table && decide (d.cols.length = 0) && decide (d.keys.length = 0) && noneB d.name && noneB d.to
theorem Dc.nilB_iff (d : Dc) : d.nilB = true ↔ d.nil := by
  unfold Dc.nilB Dc.nil
  simp [and_assoc]

set_option maxRecDepth 100000 in
set_option maxHeartbeats 1000000 in
/-- spec.l04NoDdl -/
theorem nil_spec (x : Array Value) (t : Dc) (w : World) (hx : DdlV w x t) : Calls Try.prog 61 #[.agg x] w fun e w' => e = .returned (.bool t.nilB) ∧ Below w.heap.size w w' := by
  obtain ⟨a, p, o, q, rfl, hx, hc, hkk⟩ := hx.lit
  have hcap : t.cols.length ≤ 9223372036854775807 ∧ t.keys.length ≤ 9223372036854775807 := by
    obtain ⟨_, _, e, h1, h2, _⟩ := hc
    obtain ⟨_, _, e', h1', h2', _⟩ := hkk
    unfold maxLen at h2 h2'
    omega
  obtain ⟨hl1, hl2⟩ := hcap
  clear hx hc hkk
  have HR0 : t.nilB = t.nilB := rfl
  conv at HR0 => rhs; unfold Dc.nilB
  obtain ⟨kind, table, cs, ks, name, to⟩ := t
  generalize Dc.nilB ⟨kind, table, cs, ks, name, to⟩ = R at HR0 ⊢
  simp only at HR0 hl1 hl2
  have HR : Hid (R = _) := HR0
  clear HR0
  go_enter Try.func61, Try.ntmps61
  go_wp2
  all_goals
    go_ret
    exact ⟨by rw [HR.out]; simp [noneB, *], (by repeat (first | with_reducible exact Below.refl _ _ | with_reducible assumption | with_reducible refine ch_alloc ?_ _ | with_reducible refine Below.drew ?_ | with_reducible refine below_draws _ ?_ | (with_reducible refine Below.setCell ?_ ?_ _; rotate_left; focus (first | with_reducible exact Nat.le_refl _ | (simp; done) | (simp; omega) | (simp at *; omega))) | with_reducible refine ch_trans ?_ (by with_reducible assumption)))⟩

set_option maxRecDepth 100000 in
set_option maxHeartbeats 1000000 in
/-- impl.noDdl -/
theorem nil_impl (x : Array Value) (t : Dc) (w : World) (hx : DdlV w x t) : Calls Try.prog 79 #[.agg x] w fun e w' => e = .returned (.bool t.nilB) ∧ Below w.heap.size w w' := by
  obtain ⟨a, p, o, q, rfl, hx, hc, hkk⟩ := hx.lit
  have hcap : t.cols.length ≤ 9223372036854775807 ∧ t.keys.length ≤ 9223372036854775807 := by
    obtain ⟨_, _, e, h1, h2, _⟩ := hc
    obtain ⟨_, _, e', h1', h2', _⟩ := hkk
    unfold maxLen at h2 h2'
    omega
  obtain ⟨hl1, hl2⟩ := hcap
  clear hx hc hkk
  have HR0 : t.nilB = t.nilB := rfl
  conv at HR0 => rhs; unfold Dc.nilB
  obtain ⟨kind, table, cs, ks, name, to⟩ := t
  generalize Dc.nilB ⟨kind, table, cs, ks, name, to⟩ = R at HR0 ⊢
  simp only at HR0 hl1 hl2
  have HR : Hid (R = _) := HR0
  clear HR0
  go_enter Try.func79, Try.ntmps79
  go_wp2
  all_goals
    go_ret
    exact ⟨by rw [HR.out]; simp [noneB, *], (by repeat (first | with_reducible exact Below.refl _ _ | with_reducible assumption | with_reducible refine ch_alloc ?_ _ | with_reducible refine Below.drew ?_ | with_reducible refine below_draws _ ?_ | (with_reducible refine Below.setCell ?_ ?_ _; rotate_left; focus (first | with_reducible exact Nat.le_refl _ | (simp; done) | (simp; omega) | (simp at *; omega))) | with_reducible refine ch_trans ?_ (by with_reducible assumption)))⟩
end Go.Proofs.Ytikccmgpmbnkfaa
