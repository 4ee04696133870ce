/- Whether a batch is right: given and landed. -/
import Derived.Test.YtiijahoheajppaaGreatStS
import Derived.Test.YtiijahoheajppaaGreatStI
import Derived.Test.YtiijahoheajppaaGreatBta
namespace Go.Proofs.YtiijahoheajppaaGreat
open Go.ChangeShapes Go.WideShapes Go.ChangeAt Go.RowKit

/-- At most eight words. -/
def fewW (ks : List ByteArray) : Prop := ks.length ≤ 8 ∧ ∀ i (h : i < ks.length), wordB ks[i] = true
/-- A part is right. -/
def Ptc.right (t : Ptc) : Prop := t.st.right ∧ fewW t.cols ∧ fewW t.keys
/-- A batch is right. -/
def Btc.right (t : Btc) : Prop := (1 ≤ t.lsn ∧ t.lsn ≤ 400 ∧ 0 ≤ t.prev ∧ t.prev < t.lsn) ∧ t.parts.length ≤ 60 ∧ ∀ i (h : i < t.parts.length), t.parts[i].right

set_option maxRecDepth 100000 in
/-- The closure over words. -/
theorem fewFnS_any (X : Nat) (s : ByteArray) (w : World) (hs : s.size ≤ maxLen) (hX : w.cell? ⟨X, 0, none⟩ = some (.func (.func 118) #[] #[])) :
    Calls Tryz.prog 152 #[.string s, .pointer (some ⟨X, 0, none⟩)] w fun e w' => e = .returned (.bool (!wordB s)) ∧ Below w.heap.size w w' := by
  have HW : Hid (∀ u : World, Calls Tryz.prog 118 #[.string s] u fun e w' => e = .returned (.bool (wordB s)) ∧ w' = u) := fun u => word_impl s u hs
  clear hs
  generalize wordB s = q at HW ⊢
  go_enter Tryz.func152, Tryz.ntmps152
  go_wp2_with fail
  refine (HW.out _).mono ?_
  rintro e w1 ⟨rfl, rfl⟩
  go_wp2
  go_ret
  exact ⟨rfl, (by repeat (first | with_reducible exact Below.refl _ _ | with_reducible assumption | with_reducible refine ch_alloc ?_ _ | with_reducible refine Below.drew ?_ | with_reducible refine below_draws _ ?_ | (with_reducible refine Below.setCell ?_ ?_ _; rotate_left; focus (first | with_reducible exact Nat.le_refl _ | (simp; done) | (simp; omega) | (simp at *; omega))) | with_reducible refine ch_trans ?_ (by with_reducible assumption)))⟩

set_option maxRecDepth 100000 in
set_option maxHeartbeats 1000000 in
/-- slices.IndexFunc over words, with that closure. -/
theorem fewIxS_any (X : Nat) (v : Value) (ks : List ByteArray) (w : World) (hv : StrsV w v ks) (hs : ∀ s ∈ ks, s.size ≤ maxLen) (hX : w.cell? ⟨X, 0, none⟩ = some (.func (.func 118) #[] #[])) :
    Calls Tryz.prog 159 #[v, .func (.func 152) #[] #[.pointer (some ⟨X, 0, none⟩)]] w fun e w' => ∃ r : Int, e = .returned (.int .i64 r) ∧ ((0 ≤ r ∧ ¬ ∀ i (h : i < ks.length), wordB ks[i] = true) ∨ (r = -1 ∧ ∀ i (h : i < ks.length), wordB ks[i] = true)) ∧ Below w.heap.size w w' := by
  obtain ⟨a, p, rfl, hl, hm, hr⟩ := hv
  unfold maxLen at hm
  have HR : Hid (RowAt w a 1 (ks.map strX)) := hr
  have HV : Hid (w.cell? ⟨X, 0, none⟩ = some (.func (.func 118) #[] #[])) := hX
  have HS : Hid (∀ s ∈ ks, s.size ≤ maxLen) := hs
  clear hr hX hs
  go_enter Tryz.func159, Tryz.ntmps159
  go_wp2
  go_loopw [8] (fun i wr => ∃ k : Nat, k ≤ ks.length ∧ i = .int .i64 (k : Int) ∧ Below w.heap.size w wr ∧ Hid (∀ j (h : j < ks.length), j < k → wordB ks[j] = true)) (fun i _ => ks.length - (intOf i).toNat)
  case atStart => exact ⟨0, Nat.zero_le _, rfl, (by repeat (first | with_reducible exact Below.refl _ _ | with_reducible assumption | with_reducible refine ch_alloc ?_ _ | with_reducible refine Below.drew ?_ | with_reducible refine below_draws _ ?_ | (with_reducible refine Below.setCell ?_ ?_ _; rotate_left; focus (first | with_reducible exact Nat.le_refl _ | (simp; done) | (simp; omega) | (simp at *; omega))) | with_reducible refine ch_trans ?_ (by with_reducible assumption))), fun j _ h => by omega⟩
  case round =>
    obtain ⟨k, hk, rfl, hb, HN⟩ := hrel
    by_cases hlt : k < ks.length
    · have hlti : (k : Int) < ks.length := by omega
      obtain ⟨b, off, rfl, c0⟩ := (HR.out.on hb).strs k hlt
      have HC : Hid (∀ u : World, Below wr.heap.size wr u → Calls Tryz.prog 152 #[.string ks[k], .pointer (some ⟨X, 0, none⟩)] u fun e w' => e = .returned (.bool (!wordB ks[k])) ∧ Below u.heap.size u w') := fun u hu => fewFnS_any X _ u (HS.out _ (List.getElem_mem hlt)) (cell_on (cell_on HV.out hb) hu)
      have HT : Hid (wordB ks[k] = false → ¬ ∀ i (h : i < ks.length), wordB ks[i] = true) := fun h g => by rw [g k hlt] at h; simp at h
      have HG : Hid (wordB ks[k] = true → ∀ j (h : j < ks.length), j < k + 1 → wordB ks[j] = true) := fun hq i h hi => by
        by_cases e : i = k
        · subst e; exact hq
        · exact HN.out i h (by omega)
      generalize wordB ks[k] = q at HC HT HG
      go_wp2_with fail
      refine (HC.out _ (by repeat (first | with_reducible exact Below.refl _ _ | with_reducible assumption | with_reducible refine ch_alloc ?_ _ | with_reducible refine Below.drew ?_ | with_reducible refine below_draws _ ?_ | (with_reducible refine Below.setCell ?_ ?_ _; rotate_left; focus (first | with_reducible exact Nat.le_refl _ | (simp; done) | (simp; omega) | (simp at *; omega))) | with_reducible refine ch_trans ?_ (by with_reducible assumption)))).mono ?_
      rintro e w1 ⟨rfl, b1⟩
      cases q
      · have HQ := HT.out rfl
        go_wp2
        go_ret
        exact ⟨_, rfl, Or.inl ⟨by omega, HQ⟩, (by repeat (first | with_reducible exact Below.refl _ _ | with_reducible assumption | with_reducible refine ch_alloc ?_ _ | with_reducible refine Below.drew ?_ | with_reducible refine below_draws _ ?_ | (with_reducible refine Below.setCell ?_ ?_ _; rotate_left; focus (first | with_reducible exact Nat.le_refl _ | (simp; done) | (simp; omega) | (simp at *; omega))) | with_reducible refine ch_trans ?_ (by with_reducible assumption)))⟩
      · have HN' : Hid (∀ j (h : j < ks.length), j < k + 1 → wordB ks[j] = true) := HG.out rfl
        go_wp2
        go_round
        case rel => exact ⟨k + 1, by omega, by go_num, (by repeat (first | with_reducible exact Below.refl _ _ | with_reducible assumption | with_reducible refine ch_alloc ?_ _ | with_reducible refine Below.drew ?_ | with_reducible refine below_draws _ ?_ | (with_reducible refine Below.setCell ?_ ?_ _; rotate_left; focus (first | with_reducible exact Nat.le_refl _ | (simp; done) | (simp; omega) | (simp at *; omega))) | with_reducible refine ch_trans ?_ (by with_reducible assumption))), HN'⟩
        case measure => simp [intOf]; omega
    · have hlti : (ks.length : Int) ≤ k := by omega
      go_wp2
      go_ret
      exact ⟨_, rfl, Or.inr ⟨rfl, fun i h => HN.out i h (by omega)⟩, (by repeat (first | with_reducible exact Below.refl _ _ | with_reducible assumption | with_reducible refine ch_alloc ?_ _ | with_reducible refine Below.drew ?_ | with_reducible refine below_draws _ ?_ | (with_reducible refine Below.setCell ?_ ?_ _; rotate_left; focus (first | with_reducible exact Nat.le_refl _ | (simp; done) | (simp; omega) | (simp at *; omega))) | with_reducible refine ch_trans ?_ (by with_reducible assumption)))⟩

set_option maxRecDepth 100000 in
/-- slices.ContainsFunc over words, with that closure. -/
theorem fewHasS_any (X : Nat) (v : Value) (ks : List ByteArray) (w : World) (hv : StrsV w v ks) (hs : ∀ s ∈ ks, s.size ≤ maxLen) (hX : w.cell? ⟨X, 0, none⟩ = some (.func (.func 118) #[] #[])) :
    Calls Tryz.prog 151 #[v, .func (.func 152) #[] #[.pointer (some ⟨X, 0, none⟩)]] w fun e w' => ∃ q : Bool, e = .returned (.bool q) ∧ (q = false ↔ ∀ i (h : i < ks.length), wordB ks[i] = true) ∧ Below w.heap.size w w' := by
  have HC : Hid (∀ u : World, Below w.heap.size w u → Calls Tryz.prog 159 #[v, .func (.func 152) #[] #[.pointer (some ⟨X, 0, none⟩)]] u fun e w' => ∃ r : Int, e = .returned (.int .i64 r) ∧ ((0 ≤ r ∧ ¬ ∀ i (h : i < ks.length), wordB ks[i] = true) ∨ (r = -1 ∧ ∀ i (h : i < ks.length), wordB ks[i] = true)) ∧ Below u.heap.size u w') := fun u hu => fewIxS_any X v ks u (hv.on hu) hs (cell_on hX hu)
  obtain ⟨a, cap, rfl, hl, hm, _⟩ := hv
  clear hs hX
  go_enter Tryz.func151, Tryz.ntmps151
  go_wp2_with fail
  refine (HC.out _ (by repeat (first | with_reducible exact Below.refl _ _ | with_reducible assumption | with_reducible refine ch_alloc ?_ _ | with_reducible refine Below.drew ?_ | with_reducible refine below_draws _ ?_ | (with_reducible refine Below.setCell ?_ ?_ _; rotate_left; focus (first | with_reducible exact Nat.le_refl _ | (simp; done) | (simp; omega) | (simp at *; omega))) | with_reducible refine ch_trans ?_ (by with_reducible assumption)))).mono ?_
  rintro e w1 ⟨r, rfl, hr, b1⟩
  rcases hr with ⟨h0, hn⟩ | ⟨rfl, ha⟩
  · have HN : Hid (¬ ∀ i (h : i < ks.length), wordB ks[i] = true) := hn
    have hd : decide (0 ≤ r) = true := by simpa using h0
    clear hn
    go_wp2
    go_ret
    exact ⟨true, rfl, ⟨fun h => by simp at h, fun h => absurd h HN.out⟩, (by repeat (first | with_reducible exact Below.refl _ _ | with_reducible assumption | with_reducible refine ch_alloc ?_ _ | with_reducible refine Below.drew ?_ | with_reducible refine below_draws _ ?_ | (with_reducible refine Below.setCell ?_ ?_ _; rotate_left; focus (first | with_reducible exact Nat.le_refl _ | (simp; done) | (simp; omega) | (simp at *; omega))) | with_reducible refine ch_trans ?_ (by with_reducible assumption)))⟩
  · have HA : Hid (∀ i (h : i < ks.length), wordB ks[i] = true) := ha
    clear ha
    go_wp2
    go_ret
    exact ⟨false, rfl, ⟨fun _ => HA.out, fun _ => rfl⟩, (by repeat (first | with_reducible exact Below.refl _ _ | with_reducible assumption | with_reducible refine ch_alloc ?_ _ | with_reducible refine Below.drew ?_ | with_reducible refine below_draws _ ?_ | (with_reducible refine Below.setCell ?_ ?_ _; rotate_left; focus (first | with_reducible exact Nat.le_refl _ | (simp; done) | (simp; omega) | (simp at *; omega))) | with_reducible refine ch_trans ?_ (by with_reducible assumption)))⟩

set_option maxRecDepth 100000 in
/-- impl.fewAndRight of words -/
theorem fewS_any (v : Value) (ks : List ByteArray) (w : World) (hv : StrsV w v ks) (hs : ∀ s ∈ ks, s.size ≤ maxLen) :
    Calls Tryz.prog 135 #[v, .int .i64 8, .func (.func 118) #[] #[]] w fun e w' => ∃ q : Bool, e = .returned (.bool q) ∧ (q = true ↔ fewW ks) ∧ Below w.heap.size w w' := by
  have hmf : ∀ (fn : Fn) (first cap : Array Value) (w : World), (Instr.makeFunc fn first cap).run Tryz.prog w = .ok (.func fn first cap) w := fun _ _ _ _ => rfl
  have HC : Hid (∀ u : World, Below w.heap.size w u → u.cell? ⟨w.heap.size, 0, none⟩ = some (.func (.func 118) #[] #[]) → Calls Tryz.prog 151 #[v, .func (.func 152) #[] #[.pointer (some ⟨w.heap.size, 0, none⟩)]] u fun e w' => ∃ q : Bool, e = .returned (.bool q) ∧ (q = false ↔ ∀ i (h : i < ks.length), wordB ks[i] = true) ∧ Below u.heap.size u w') := fun u hu hX => fewHasS_any w.heap.size v ks u (hv.on hu) hs hX
  obtain ⟨a, cap, rfl, hl, hm, _⟩ := hv
  unfold maxLen at hm
  clear hs
  by_cases h8 : ks.length ≤ 8
  · have d8 : decide ((ks.length : Int) ≤ 8) = true := by simp; omega
    have h0 := (Loc.new w #[.func (.func 118) #[] #[]] 148).one
    go_enter Tryz.func135, Tryz.ntmps135
    go_wp2_with fail
    refine (HC.out _ (by repeat (first | with_reducible exact Below.refl _ _ | with_reducible assumption | with_reducible refine ch_alloc ?_ _ | with_reducible refine Below.drew ?_ | with_reducible refine below_draws _ ?_ | (with_reducible refine Below.setCell ?_ ?_ _; rotate_left; focus (first | with_reducible exact Nat.le_refl _ | (simp; done) | (simp; omega) | (simp at *; omega))) | with_reducible refine ch_trans ?_ (by with_reducible assumption))) h0).mono ?_
    rintro e w1 ⟨q, rfl, hq, b1⟩
    have HQ : Hid (q = false ↔ ∀ i (h : i < ks.length), wordB ks[i] = true) := hq
    clear hq
    cases q
    all_goals
      go_wp2
      go_ret
      exact ⟨_, rfl, by have := HQ.out; simp [fewW, h8] at this ⊢ <;> exact this, (by repeat (first | with_reducible exact Below.refl _ _ | with_reducible assumption | with_reducible refine ch_alloc ?_ _ | with_reducible refine Below.drew ?_ | with_reducible refine below_draws _ ?_ | (with_reducible refine Below.setCell ?_ ?_ _; rotate_left; focus (first | with_reducible exact Nat.le_refl _ | (simp; done) | (simp; omega) | (simp at *; omega))) | with_reducible refine ch_trans ?_ (by with_reducible assumption)))⟩
  · have d8 : decide ((ks.length : Int) ≤ 8) = false := by simp; omega
    go_enter Tryz.func135, Tryz.ntmps135
    go_wp2
    go_ret
    exact ⟨false, rfl, ⟨fun h => by simp at h, fun h => absurd h.1 h8⟩, (by repeat (first | with_reducible exact Below.refl _ _ | with_reducible assumption | with_reducible refine ch_alloc ?_ _ | with_reducible refine Below.drew ?_ | with_reducible refine below_draws _ ?_ | (with_reducible refine Below.setCell ?_ ?_ _; rotate_left; focus (first | with_reducible exact Nat.le_refl _ | (simp; done) | (simp; omega) | (simp at *; omega))) | with_reducible refine ch_trans ?_ (by with_reducible assumption)))⟩

set_option maxRecDepth 100000 in
set_option maxHeartbeats 1000000 in
/-- spec.l09Words -/
theorem words_spec (v : Value) (ks : List ByteArray) (w : World) (hv : StrsV w v ks) (hs : ∀ s ∈ ks, s.size ≤ maxLen) :
    Calls Tryz.prog 62 #[v] w fun e w' => ∃ q : Bool, e = .returned (.bool q) ∧ (q = true ↔ fewW ks) ∧ Below w.heap.size w w' := by
  obtain ⟨a, p, rfl, hl, hm, hr⟩ := hv
  unfold maxLen at hm
  have HR : Hid (RowAt w a 1 (ks.map strX)) := hr
  have HS : Hid (∀ s ∈ ks, s.size ≤ maxLen) := hs
  clear hr hs
  go_enter Tryz.func62, Tryz.ntmps62
  go_wp2
  go_loopw [7] (fun i wr => ∃ k : Nat, k ≤ ks.length ∧ i = .int .i64 (k : Int) ∧ Below w.heap.size w wr ∧ Hid (∀ j (h : j < ks.length), j < k → wordB ks[j] = true)) (fun i _ => ks.length - (intOf i).toNat)
  case atStart => exact ⟨0, Nat.zero_le _, rfl, (by repeat (first | with_reducible exact Below.refl _ _ | with_reducible assumption | with_reducible refine ch_alloc ?_ _ | with_reducible refine Below.drew ?_ | with_reducible refine below_draws _ ?_ | (with_reducible refine Below.setCell ?_ ?_ _; rotate_left; focus (first | with_reducible exact Nat.le_refl _ | (simp; done) | (simp; omega) | (simp at *; omega))) | with_reducible refine ch_trans ?_ (by with_reducible assumption))), fun j _ h => by omega⟩
  case round =>
    obtain ⟨k, hk, rfl, hb, HN⟩ := hrel
    by_cases hlt : k < ks.length
    · have hlti : (k : Int) < ks.length := by omega
      obtain ⟨b, off, rfl, c0⟩ := (HR.out.on hb).strs k hlt
      have HC : Hid (∀ u : World, Calls Tryz.prog 98 #[.string ks[k]] u fun e w' => e = .returned (.bool (wordB ks[k])) ∧ w' = u) := fun u => word_spec _ u (HS.out _ (List.getElem_mem hlt))
      have HT : Hid (wordB ks[k] = false → ¬ fewW ks) := fun h g => by rw [g.2 k hlt] at h; simp at h
      have HG : Hid (wordB ks[k] = true → ∀ j (h : j < ks.length), j < k + 1 → wordB ks[j] = true) := fun hq i h hi => by
        by_cases e : i = k
        · subst e; exact hq
        · exact HN.out i h (by omega)
      generalize wordB ks[k] = q at HC HT HG
      go_wp2_with fail
      refine (HC.out _).mono ?_
      rintro e w1 ⟨rfl, rfl⟩
      cases q
      · have HQ := HT.out rfl
        go_wp2
        go_ret
        exact ⟨false, rfl, ⟨fun h => by simp at h, fun h => absurd h HQ⟩, (by repeat (first | with_reducible exact Below.refl _ _ | with_reducible assumption | with_reducible refine ch_alloc ?_ _ | with_reducible refine Below.drew ?_ | with_reducible refine below_draws _ ?_ | (with_reducible refine Below.setCell ?_ ?_ _; rotate_left; focus (first | with_reducible exact Nat.le_refl _ | (simp; done) | (simp; omega) | (simp at *; omega))) | with_reducible refine ch_trans ?_ (by with_reducible assumption)))⟩
      · have HN' : Hid (∀ j (h : j < ks.length), j < k + 1 → wordB ks[j] = true) := HG.out rfl
        go_wp2
        go_round
        case rel => exact ⟨k + 1, by omega, by go_num, (by repeat (first | with_reducible exact Below.refl _ _ | with_reducible assumption | with_reducible refine ch_alloc ?_ _ | with_reducible refine Below.drew ?_ | with_reducible refine below_draws _ ?_ | (with_reducible refine Below.setCell ?_ ?_ _; rotate_left; focus (first | with_reducible exact Nat.le_refl _ | (simp; done) | (simp; omega) | (simp at *; omega))) | with_reducible refine ch_trans ?_ (by with_reducible assumption))), HN'⟩
        case measure => simp [intOf]; omega
    · have hlti : (ks.length : Int) ≤ k := by omega
      have HA : Hid (∀ i (h : i < ks.length), wordB ks[i] = true) := fun i h => HN.out i h (by omega)
      go_wp2
      go_ret
      exact ⟨_, rfl, ⟨fun h => ⟨by have h := of_decide_eq_true h; omega, HA.out⟩, fun h => decide_eq_true (by have := h.1; omega)⟩, (by repeat (first | with_reducible exact Below.refl _ _ | with_reducible assumption | with_reducible refine ch_alloc ?_ _ | with_reducible refine Below.drew ?_ | with_reducible refine below_draws _ ?_ | (with_reducible refine Below.setCell ?_ ?_ _; rotate_left; focus (first | with_reducible exact Nat.le_refl _ | (simp; done) | (simp; omega) | (simp at *; omega))) | with_reducible refine ch_trans ?_ (by with_reducible assumption)))⟩

set_option maxRecDepth 100000 in
set_option maxHeartbeats 1000000 in
/-- impl.partOk -/
theorem partOk_any (x : Array Value) (t : Ptc) (w : World) (hx : PartV w x t) (hf : t.fit) :
    Calls Tryz.prog 108 #[.agg x] w fun e w' => ∃ q : Bool, e = .returned (.bool q) ∧ (q = true ↔ t.right) ∧ Below w.heap.size w w' := by
  obtain ⟨qz, hqz⟩ := bool_of t.right
  suffices H : Calls Tryz.prog 108 #[.agg x] w fun e w' => e = .returned (.bool qz) ∧ Below w.heap.size w w' from H.mono fun e w' ⟨h1, h2⟩ => ⟨qz, h1, hqz, h2⟩
  obtain ⟨ka, kp, ra, rp, ca, cp, oa, op, ya, yp, za, zp, rfl, _, hs, hy, hz⟩ := hx.lit
  obtain ⟨qs, hqs⟩ := bool_of t.st.right
  obtain ⟨qy, hqy⟩ := bool_of (fewW t.cols)
  obtain ⟨qk, hqk⟩ := bool_of (fewW t.keys)
  have HS : Hid (∀ u : World, Below w.heap.size w u → Calls Tryz.prog 85 #[.agg #[.int .i64 t.st.kind, .string t.st.table, .slice ka t.st.key.length kp, .slice ra t.st.row.length rp, .int .i64 t.st.ddl.kind, .string t.st.ddl.table, .slice ca t.st.ddl.cols.length cp, .slice oa t.st.ddl.keys.length op, .string t.st.ddl.name, .string t.st.ddl.to]] u fun e w' => e = .returned (.bool qs) ∧ Below u.heap.size u w') := fun u hu => (stmtOk_impl _ t.st u (hs.on hu) hf.1).mono fun e w' ⟨q, h1, h2, h3⟩ => ⟨by rw [h1, Bool.eq_iff_iff.2 (h2.trans hqs.symm)], h3⟩
  have HY : Hid (∀ u : World, Below w.heap.size w u → Calls Tryz.prog 135 #[.slice ya t.cols.length yp, .int .i64 8, .func (.func 118) #[] #[]] u fun e w' => e = .returned (.bool qy) ∧ Below u.heap.size u w') := fun u hu => (fewS_any _ t.cols u (hy.on hu) hf.2.1).mono fun e w' ⟨q, h1, h2, h3⟩ => ⟨by rw [h1, Bool.eq_iff_iff.2 (h2.trans hqy.symm)], h3⟩
  have HZ : Hid (∀ u : World, Below w.heap.size w u → Calls Tryz.prog 135 #[.slice za t.keys.length zp, .int .i64 8, .func (.func 118) #[] #[]] u fun e w' => e = .returned (.bool qk) ∧ Below u.heap.size u w') := fun u hu => (fewS_any _ t.keys u (hz.on hu) hf.2.2).mono fun e w' ⟨q, h1, h2, h3⟩ => ⟨by rw [h1, Bool.eq_iff_iff.2 (h2.trans hqk.symm)], h3⟩
  have HQ : qz = (qs && qy && qk) := by
    rw [Bool.eq_iff_iff, hqz, Bool.and_eq_true, Bool.and_eq_true, hqs, hqy, hqk, Ptc.right, and_assoc]
  subst HQ
  have HL := Loc.new w #[.int .i64 t.st.kind, .string t.st.table, .slice ka t.st.key.length kp, .slice ra t.st.row.length rp, .int .i64 t.st.ddl.kind, .string t.st.ddl.table, .slice ca t.st.ddl.cols.length cp, .slice oa t.st.ddl.keys.length op, .string t.st.ddl.name, .string t.st.ddl.to, .slice ya t.cols.length yp, .slice za t.keys.length zp] 68
  have hbv : Below w.heap.size w (w.alloc (.cells #[.int .i64 t.st.kind, .string t.st.table, .slice ka t.st.key.length kp, .slice ra t.st.row.length rp, .int .i64 t.st.ddl.kind, .string t.st.ddl.table, .slice ca t.st.ddl.cols.length cp, .slice oa t.st.ddl.keys.length op, .string t.st.ddl.name, .string t.st.ddl.to, .slice ya t.cols.length yp, .slice za t.keys.length zp] 68)) := (by repeat (first | with_reducible exact Below.refl _ _ | with_reducible assumption | with_reducible refine ch_alloc ?_ _ | with_reducible refine Below.drew ?_ | with_reducible refine below_draws _ ?_ | (with_reducible refine Below.setCell ?_ ?_ _; rotate_left; focus (first | with_reducible exact Nat.le_refl _ | (simp; done) | (simp; omega) | (simp at *; omega))) | with_reducible refine ch_trans ?_ (by with_reducible assumption)))
  clear hs hy hz hx hf hqz hqs hqy hqk
  go_enter Tryz.func108, Tryz.ntmps108
  go_wp2_with fail
  refine (HS.out _ hbv).mono ?_
  rintro e w1 ⟨rfl, b1⟩
  have HL1 := HL.on b1
  have hb1 := ch_trans hbv b1
  clear b1 hbv HL
  obtain ⟨c0, c1, c2, c3, c4, c5, c6, c7, c8, c9, c10, c11⟩ := HL1.twelve
  cases qs
  · go_wp2
    go_ret
    exact ⟨rfl, hb1⟩
  go_wp2_with fail
  refine (HY.out _ hb1).mono ?_
  rintro e w2 ⟨rfl, b2⟩
  have HL2 := HL1.on b2
  have hb2 := ch_trans hb1 b2
  clear b2 hb1 HL1 c0 c1 c2 c3 c4 c5 c6 c7 c8 c9 c10 c11
  obtain ⟨c0, c1, c2, c3, c4, c5, c6, c7, c8, c9, c10, c11⟩ := HL2.twelve
  cases qy
  · go_wp2
    go_ret
    exact ⟨rfl, hb2⟩
  go_wp2_with fail
  refine (HZ.out _ hb2).mono ?_
  rintro e w3 ⟨rfl, b3⟩
  go_wp2
  go_ret
  exact ⟨rfl, ch_trans hb2 b3⟩

set_option maxRecDepth 100000 in
/-- The closure over parts. -/
theorem fewFnP_any (X : Nat) (x : Array Value) (t : Ptc) (w : World) (hx : PartV w x t) (hf : t.fit) (hX : w.cell? ⟨X, 0, none⟩ = some (.func (.func 108) #[] #[])) :
    Calls Tryz.prog 134 #[.agg x, .pointer (some ⟨X, 0, none⟩)] w fun e w' => ∃ q : Bool, e = .returned (.bool q) ∧ (q = false ↔ t.right) ∧ Below w.heap.size w w' := by
  have HC : Hid (∀ u : World, Below w.heap.size w u → Calls Tryz.prog 108 #[.agg x] u fun e w' => ∃ q : Bool, e = .returned (.bool q) ∧ (q = true ↔ t.right) ∧ Below u.heap.size u w') := fun u hu => partOk_any x t u (hx.on hu) hf
  obtain ⟨ka, kp, ra, rp, ca, cp, oa, op, ya, yp, za, zp, rfl, _, _⟩ := hx.lit
  have hX1 : (w.alloc (.cells #[.int .i64 t.st.kind, .string t.st.table, .slice ka t.st.key.length kp, .slice ra t.st.row.length rp, .int .i64 t.st.ddl.kind, .string t.st.ddl.table, .slice ca t.st.ddl.cols.length cp, .slice oa t.st.ddl.keys.length op, .string t.st.ddl.name, .string t.st.ddl.to, .slice ya t.cols.length yp, .slice za t.keys.length zp] 68)).cell? ⟨X, 0, none⟩ = some (.func (.func 108) #[] #[]) := cell_on hX (ch_alloc (Below.refl _ _) _)
  clear hx hf
  go_enter Tryz.func134, Tryz.ntmps134
  go_wp2_with fail
  refine (HC.out _ (by repeat (first | with_reducible exact Below.refl _ _ | with_reducible assumption | with_reducible refine ch_alloc ?_ _ | with_reducible refine Below.drew ?_ | with_reducible refine below_draws _ ?_ | (with_reducible refine Below.setCell ?_ ?_ _; rotate_left; focus (first | with_reducible exact Nat.le_refl _ | (simp; done) | (simp; omega) | (simp at *; omega))) | with_reducible refine ch_trans ?_ (by with_reducible assumption)))).mono ?_
  rintro e w1 ⟨q, rfl, hq, b1⟩
  have HQ : Hid (q = true ↔ t.right) := hq
  clear hq
  go_wp2
  go_ret
  exact ⟨_, rfl, by rw [← HQ.out]; simp, (by repeat (first | with_reducible exact Below.refl _ _ | with_reducible assumption | with_reducible refine ch_alloc ?_ _ | with_reducible refine Below.drew ?_ | with_reducible refine below_draws _ ?_ | (with_reducible refine Below.setCell ?_ ?_ _; rotate_left; focus (first | with_reducible exact Nat.le_refl _ | (simp; done) | (simp; omega) | (simp at *; omega))) | with_reducible refine ch_trans ?_ (by with_reducible assumption)))⟩

set_option maxRecDepth 100000 in
set_option maxHeartbeats 1000000 in
/-- slices.IndexFunc over parts, with that closure. -/
theorem fewIxP_any (X : Nat) (v : Value) (ts : List Ptc) (w : World) (hv : PartsV w v ts) (hf : pfits ts) (hX : w.cell? ⟨X, 0, none⟩ = some (.func (.func 108) #[] #[])) :
    Calls Tryz.prog 150 #[v, .func (.func 134) #[] #[.pointer (some ⟨X, 0, none⟩)]] w fun e w' => ∃ r : Int, e = .returned (.int .i64 r) ∧ ((0 ≤ r ∧ ¬ ∀ i (h : i < ts.length), ts[i].right) ∨ (r = -1 ∧ ∀ i (h : i < ts.length), ts[i].right)) ∧ Below w.heap.size w w' := by
  obtain ⟨a, p, rfl, hl, hm, hr⟩ := hv.lit
  unfold maxLen at hm
  have HX : Hid (PartsV w (.slice a ts.length p) ts) := hr
  have HV : Hid (w.cell? ⟨X, 0, none⟩ = some (.func (.func 108) #[] #[])) := hX
  have HF : Hid (pfits ts) := hf
  clear hr hX hf hv
  go_enter Tryz.func150, Tryz.ntmps150
  go_wp2
  go_loopw [8] (fun i wr => ∃ k : Nat, k ≤ ts.length ∧ i = .int .i64 (k : Int) ∧ Below w.heap.size w wr ∧ Hid (∀ j (h : j < ts.length), j < k → ts[j].right)) (fun i _ => ts.length - (intOf i).toNat)
  case atStart => exact ⟨0, Nat.zero_le _, rfl, (by repeat (first | with_reducible exact Below.refl _ _ | with_reducible assumption | with_reducible refine ch_alloc ?_ _ | with_reducible refine Below.drew ?_ | with_reducible refine below_draws _ ?_ | (with_reducible refine Below.setCell ?_ ?_ _; rotate_left; focus (first | with_reducible exact Nat.le_refl _ | (simp; done) | (simp; omega) | (simp at *; omega))) | with_reducible refine ch_trans ?_ (by with_reducible assumption))), fun j _ h => by omega⟩
  case round =>
    obtain ⟨k, hk, rfl, hb, HN⟩ := hrel
    by_cases hlt : k < ts.length
    · have hlti : (k : Int) < ts.length := by omega
      obtain ⟨b, off, ka, kp, ra, rp, ca, cp, oa, op, ya, yp, za, zp, rfl, hx, d0, d1, d2, d3, d4, d5, d6, d7, d8, d9, d10, d11⟩ := (HX.out.on hb).part k hlt
      have HY : Hid (PartV wr #[.int .i64 ts[k].st.kind, .string ts[k].st.table, .slice ka ts[k].st.key.length kp, .slice ra ts[k].st.row.length rp, .int .i64 ts[k].st.ddl.kind, .string ts[k].st.ddl.table, .slice ca ts[k].st.ddl.cols.length cp, .slice oa ts[k].st.ddl.keys.length op, .string ts[k].st.ddl.name, .string ts[k].st.ddl.to, .slice ya ts[k].cols.length yp, .slice za ts[k].keys.length zp] ts[k]) := hx
      have HC : Hid (∀ u : World, Below wr.heap.size wr u → Calls Tryz.prog 134 #[.agg #[.int .i64 ts[k].st.kind, .string ts[k].st.table, .slice ka ts[k].st.key.length kp, .slice ra ts[k].st.row.length rp, .int .i64 ts[k].st.ddl.kind, .string ts[k].st.ddl.table, .slice ca ts[k].st.ddl.cols.length cp, .slice oa ts[k].st.ddl.keys.length op, .string ts[k].st.ddl.name, .string ts[k].st.ddl.to, .slice ya ts[k].cols.length yp, .slice za ts[k].keys.length zp], .pointer (some ⟨X, 0, none⟩)] u fun e w' => ∃ q : Bool, e = .returned (.bool q) ∧ (q = false ↔ ts[k].right) ∧ Below u.heap.size u w') := fun u hu => fewFnP_any X _ ts[k] u (HY.out.on hu) (HF.out _ (List.getElem_mem hlt)) (cell_on (cell_on HV.out hb) hu)
      clear hx HY
      go_wp2_with fail
      refine (HC.out _ (by repeat (first | with_reducible exact Below.refl _ _ | with_reducible assumption | with_reducible refine ch_alloc ?_ _ | with_reducible refine Below.drew ?_ | with_reducible refine below_draws _ ?_ | (with_reducible refine Below.setCell ?_ ?_ _; rotate_left; focus (first | with_reducible exact Nat.le_refl _ | (simp; done) | (simp; omega) | (simp at *; omega))) | with_reducible refine ch_trans ?_ (by with_reducible assumption)))).mono ?_
      rintro e w1 ⟨q, rfl, hq, b1⟩
      cases q
      · have HN' : Hid (∀ j (h : j < ts.length), j < k + 1 → ts[j].right) := fun i h hi => by
          by_cases e : i = k
          · subst e; exact hq.1 rfl
          · exact HN.out i h (by omega)
        clear hq
        go_wp2
        go_round
        case rel => exact ⟨k + 1, by omega, by go_num, (by repeat (first | with_reducible exact Below.refl _ _ | with_reducible assumption | with_reducible refine ch_alloc ?_ _ | with_reducible refine Below.drew ?_ | with_reducible refine below_draws _ ?_ | (with_reducible refine Below.setCell ?_ ?_ _; rotate_left; focus (first | with_reducible exact Nat.le_refl _ | (simp; done) | (simp; omega) | (simp at *; omega))) | with_reducible refine ch_trans ?_ (by with_reducible assumption))), HN'⟩
        case measure => simp [intOf]; omega
      · have HQ : Hid (¬ ∀ i (h : i < ts.length), ts[i].right) := fun g => by have := hq.2 (g k hlt); simp at this
        clear hq
        go_wp2
        go_ret
        exact ⟨_, rfl, Or.inl ⟨by omega, HQ.out⟩, (by repeat (first | with_reducible exact Below.refl _ _ | with_reducible assumption | with_reducible refine ch_alloc ?_ _ | with_reducible refine Below.drew ?_ | with_reducible refine below_draws _ ?_ | (with_reducible refine Below.setCell ?_ ?_ _; rotate_left; focus (first | with_reducible exact Nat.le_refl _ | (simp; done) | (simp; omega) | (simp at *; omega))) | with_reducible refine ch_trans ?_ (by with_reducible assumption)))⟩
    · have hlti : (ts.length : Int) ≤ k := by omega
      have HA : Hid (∀ i (h : i < ts.length), ts[i].right) := fun i h => HN.out i h (by omega)
      go_wp2
      go_ret
      exact ⟨_, rfl, Or.inr ⟨rfl, HA.out⟩, (by repeat (first | with_reducible exact Below.refl _ _ | with_reducible assumption | with_reducible refine ch_alloc ?_ _ | with_reducible refine Below.drew ?_ | with_reducible refine below_draws _ ?_ | (with_reducible refine Below.setCell ?_ ?_ _; rotate_left; focus (first | with_reducible exact Nat.le_refl _ | (simp; done) | (simp; omega) | (simp at *; omega))) | with_reducible refine ch_trans ?_ (by with_reducible assumption)))⟩

set_option maxRecDepth 100000 in
/-- slices.ContainsFunc over parts, with that closure. -/
theorem fewHasP_any (X : Nat) (v : Value) (ts : List Ptc) (w : World) (hv : PartsV w v ts) (hf : pfits ts) (hX : w.cell? ⟨X, 0, none⟩ = some (.func (.func 108) #[] #[])) :
    Calls Tryz.prog 133 #[v, .func (.func 134) #[] #[.pointer (some ⟨X, 0, none⟩)]] w fun e w' => ∃ q : Bool, e = .returned (.bool q) ∧ (q = false ↔ ∀ i (h : i < ts.length), ts[i].right) ∧ Below w.heap.size w w' := by
  have HC : Hid (∀ u : World, Below w.heap.size w u → Calls Tryz.prog 150 #[v, .func (.func 134) #[] #[.pointer (some ⟨X, 0, none⟩)]] u fun e w' => ∃ r : Int, e = .returned (.int .i64 r) ∧ ((0 ≤ r ∧ ¬ ∀ i (h : i < ts.length), ts[i].right) ∨ (r = -1 ∧ ∀ i (h : i < ts.length), ts[i].right)) ∧ Below u.heap.size u w') := fun u hu => fewIxP_any X v ts u (hv.on hu) hf (cell_on hX hu)
  obtain ⟨a, cap, rfl, hl, hm, _⟩ := hv.lit
  clear hf hX hv
  go_enter Tryz.func133, Tryz.ntmps133
  go_wp2_with fail
  refine (HC.out _ (by repeat (first | with_reducible exact Below.refl _ _ | with_reducible assumption | with_reducible refine ch_alloc ?_ _ | with_reducible refine Below.drew ?_ | with_reducible refine below_draws _ ?_ | (with_reducible refine Below.setCell ?_ ?_ _; rotate_left; focus (first | with_reducible exact Nat.le_refl _ | (simp; done) | (simp; omega) | (simp at *; omega))) | with_reducible refine ch_trans ?_ (by with_reducible assumption)))).mono ?_
  rintro e w1 ⟨r, rfl, hr, b1⟩
  rcases hr with ⟨h0, hn⟩ | ⟨rfl, ha⟩
  · have HN : Hid (¬ ∀ i (h : i < ts.length), ts[i].right) := hn
    have hd : decide (0 ≤ r) = true := by simpa using h0
    clear hn
    go_wp2
    go_ret
    exact ⟨true, rfl, ⟨fun h => by simp at h, fun h => absurd h HN.out⟩, (by repeat (first | with_reducible exact Below.refl _ _ | with_reducible assumption | with_reducible refine ch_alloc ?_ _ | with_reducible refine Below.drew ?_ | with_reducible refine below_draws _ ?_ | (with_reducible refine Below.setCell ?_ ?_ _; rotate_left; focus (first | with_reducible exact Nat.le_refl _ | (simp; done) | (simp; omega) | (simp at *; omega))) | with_reducible refine ch_trans ?_ (by with_reducible assumption)))⟩
  · have HA : Hid (∀ i (h : i < ts.length), ts[i].right) := ha
    clear ha
    go_wp2
    go_ret
    exact ⟨false, rfl, ⟨fun _ => HA.out, fun _ => rfl⟩, (by repeat (first | with_reducible exact Below.refl _ _ | with_reducible assumption | with_reducible refine ch_alloc ?_ _ | with_reducible refine Below.drew ?_ | with_reducible refine below_draws _ ?_ | (with_reducible refine Below.setCell ?_ ?_ _; rotate_left; focus (first | with_reducible exact Nat.le_refl _ | (simp; done) | (simp; omega) | (simp at *; omega))) | with_reducible refine ch_trans ?_ (by with_reducible assumption)))⟩

set_option maxRecDepth 100000 in
/-- impl.fewAndRight of parts -/
theorem fewP_any (v : Value) (ts : List Ptc) (w : World) (hv : PartsV w v ts) (hf : pfits ts) :
    Calls Tryz.prog 107 #[v, .int .i64 60, .func (.func 108) #[] #[]] w fun e w' => ∃ q : Bool, e = .returned (.bool q) ∧ (q = true ↔ ts.length ≤ 60 ∧ ∀ i (h : i < ts.length), ts[i].right) ∧ Below w.heap.size w w' := by
  have hmf : ∀ (fn : Fn) (first cap : Array Value) (w : World), (Instr.makeFunc fn first cap).run Tryz.prog w = .ok (.func fn first cap) w := fun _ _ _ _ => rfl
  have HC : Hid (∀ u : World, Below w.heap.size w u → u.cell? ⟨w.heap.size, 0, none⟩ = some (.func (.func 108) #[] #[]) → Calls Tryz.prog 133 #[v, .func (.func 134) #[] #[.pointer (some ⟨w.heap.size, 0, none⟩)]] u fun e w' => ∃ q : Bool, e = .returned (.bool q) ∧ (q = false ↔ ∀ i (h : i < ts.length), ts[i].right) ∧ Below u.heap.size u w') := fun u hu hX => fewHasP_any w.heap.size v ts u (hv.on hu) hf hX
  obtain ⟨a, cap, rfl, hl, hm, _⟩ := hv.lit
  unfold maxLen at hm
  clear hf hv
  by_cases h8 : ts.length ≤ 60
  · have d8 : decide ((ts.length : Int) ≤ 60) = true := by simp; omega
    have h0 := (Loc.new w #[.func (.func 108) #[] #[]] 157).one
    go_enter Tryz.func107, Tryz.ntmps107
    go_wp2_with fail
    refine (HC.out _ (by repeat (first | with_reducible exact Below.refl _ _ | with_reducible assumption | with_reducible refine ch_alloc ?_ _ | with_reducible refine Below.drew ?_ | with_reducible refine below_draws _ ?_ | (with_reducible refine Below.setCell ?_ ?_ _; rotate_left; focus (first | with_reducible exact Nat.le_refl _ | (simp; done) | (simp; omega) | (simp at *; omega))) | with_reducible refine ch_trans ?_ (by with_reducible assumption))) h0).mono ?_
    rintro e w1 ⟨q, rfl, hq, b1⟩
    have HQ : Hid (q = false ↔ ∀ i (h : i < ts.length), ts[i].right) := hq
    clear hq
    cases q
    all_goals
      go_wp2
      go_ret
      exact ⟨_, rfl, by have := HQ.out; simp [h8] at this ⊢ <;> exact this, (by repeat (first | with_reducible exact Below.refl _ _ | with_reducible assumption | with_reducible refine ch_alloc ?_ _ | with_reducible refine Below.drew ?_ | with_reducible refine below_draws _ ?_ | (with_reducible refine Below.setCell ?_ ?_ _; rotate_left; focus (first | with_reducible exact Nat.le_refl _ | (simp; done) | (simp; omega) | (simp at *; omega))) | with_reducible refine ch_trans ?_ (by with_reducible assumption)))⟩
  · have d8 : decide ((ts.length : Int) ≤ 60) = false := by simp; omega
    go_enter Tryz.func107, Tryz.ntmps107
    go_wp2
    go_ret
    exact ⟨false, rfl, ⟨fun h => by simp at h, fun h => absurd h.1 h8⟩, (by repeat (first | with_reducible exact Below.refl _ _ | with_reducible assumption | with_reducible refine ch_alloc ?_ _ | with_reducible refine Below.drew ?_ | with_reducible refine below_draws _ ?_ | (with_reducible refine Below.setCell ?_ ?_ _; rotate_left; focus (first | with_reducible exact Nat.le_refl _ | (simp; done) | (simp; omega) | (simp at *; omega))) | with_reducible refine ch_trans ?_ (by with_reducible assumption)))⟩

set_option maxRecDepth 100000 in
set_option maxHeartbeats 1000000 in
/-- impl.BatchOk -/
theorem batchOk_impl (x : Array Value) (t : Btc) (w : World) (hx : BatV w x t) (hf : t.fit) :
    Calls Tryz.prog 68 #[.agg x] w fun e w' => ∃ q : Bool, e = .returned (.bool q) ∧ (q = true ↔ t.right) ∧ Below w.heap.size w w' := by
  obtain ⟨qz, hqz⟩ := bool_of t.right
  suffices H : Calls Tryz.prog 68 #[.agg x] w fun e w' => e = .returned (.bool qz) ∧ Below w.heap.size w w' from H.mono fun e w' ⟨h1, h2⟩ => ⟨qz, h1, hqz, h2⟩
  obtain ⟨a, p, rfl, hs⟩ := hx
  have HC : Hid (∀ u : World, Below w.heap.size w u → Calls Tryz.prog 107 #[.slice a t.parts.length p, .int .i64 60, .func (.func 108) #[] #[]] u fun e w' => ∃ q : Bool, e = .returned (.bool q) ∧ (q = true ↔ t.parts.length ≤ 60 ∧ ∀ i (h : i < t.parts.length), t.parts[i].right) ∧ Below u.heap.size u w') := fun u hu => fewP_any _ t.parts u (hs.on hu) hf
  have HR : Hid (t.right ↔ (1 ≤ t.lsn ∧ t.lsn ≤ 400 ∧ 0 ≤ t.prev ∧ t.prev < t.lsn) ∧ t.parts.length ≤ 60 ∧ ∀ i (h : i < t.parts.length), t.parts[i].right) := Iff.rfl
  have HL := Loc.new w #[.int .i64 t.lsn, .int .i64 t.prev, .slice a t.parts.length p] 33
  clear hs hf
  obtain ⟨l0, l1, l2⟩ := HL.three
  by_cases h1 : t.lsn < 1
  · have e1 : decide (t.lsn < 1) = true := by simpa using h1
    obtain rfl : qz = false := by
      rw [← Bool.not_eq_true, hqz]
      intro h
      have := (HR.out.1 h).1
      omega
    go_enter Tryz.func68, Tryz.ntmps68
    go_wp2
    go_ret
    exact ⟨rfl, (by repeat (first | with_reducible exact Below.refl _ _ | with_reducible assumption | with_reducible refine ch_alloc ?_ _ | with_reducible refine Below.drew ?_ | with_reducible refine below_draws _ ?_ | (with_reducible refine Below.setCell ?_ ?_ _; rotate_left; focus (first | with_reducible exact Nat.le_refl _ | (simp; done) | (simp; omega) | (simp at *; omega))) | with_reducible refine ch_trans ?_ (by with_reducible assumption)))⟩
  have d1 : decide (t.lsn < 1) = false := by simpa using h1
  by_cases h2 : 400 < t.lsn
  · have e2 : decide (400 < t.lsn) = true := by simpa using h2
    obtain rfl : qz = false := by
      rw [← Bool.not_eq_true, hqz]
      intro h
      have := (HR.out.1 h).1
      omega
    go_enter Tryz.func68, Tryz.ntmps68
    go_wp2
    go_ret
    exact ⟨rfl, (by repeat (first | with_reducible exact Below.refl _ _ | with_reducible assumption | with_reducible refine ch_alloc ?_ _ | with_reducible refine Below.drew ?_ | with_reducible refine below_draws _ ?_ | (with_reducible refine Below.setCell ?_ ?_ _; rotate_left; focus (first | with_reducible exact Nat.le_refl _ | (simp; done) | (simp; omega) | (simp at *; omega))) | with_reducible refine ch_trans ?_ (by with_reducible assumption)))⟩
  have d2 : decide (400 < t.lsn) = false := by simp; omega
  by_cases h3 : t.prev < 0
  · have e3 : decide (t.prev < 0) = true := by simpa using h3
    obtain rfl : qz = false := by
      rw [← Bool.not_eq_true, hqz]
      intro h
      have := (HR.out.1 h).1
      omega
    go_enter Tryz.func68, Tryz.ntmps68
    go_wp2
    go_ret
    exact ⟨rfl, (by repeat (first | with_reducible exact Below.refl _ _ | with_reducible assumption | with_reducible refine ch_alloc ?_ _ | with_reducible refine Below.drew ?_ | with_reducible refine below_draws _ ?_ | (with_reducible refine Below.setCell ?_ ?_ _; rotate_left; focus (first | with_reducible exact Nat.le_refl _ | (simp; done) | (simp; omega) | (simp at *; omega))) | with_reducible refine ch_trans ?_ (by with_reducible assumption)))⟩
  have d3 : decide (t.prev < 0) = false := by simpa using h3
  by_cases h4 : t.lsn ≤ t.prev
  · have e4 : decide (t.lsn ≤ t.prev) = true := by simpa using h4
    obtain rfl : qz = false := by
      rw [← Bool.not_eq_true, hqz]
      intro h
      have := (HR.out.1 h).1
      omega
    go_enter Tryz.func68, Tryz.ntmps68
    go_wp2
    go_ret
    exact ⟨rfl, (by repeat (first | with_reducible exact Below.refl _ _ | with_reducible assumption | with_reducible refine ch_alloc ?_ _ | with_reducible refine Below.drew ?_ | with_reducible refine below_draws _ ?_ | (with_reducible refine Below.setCell ?_ ?_ _; rotate_left; focus (first | with_reducible exact Nat.le_refl _ | (simp; done) | (simp; omega) | (simp at *; omega))) | with_reducible refine ch_trans ?_ (by with_reducible assumption)))⟩
  have d4 : decide (t.lsn ≤ t.prev) = false := by simp; omega
  have HR' : Hid (t.right ↔ t.parts.length ≤ 60 ∧ ∀ i (h : i < t.parts.length), t.parts[i].right) := HR.out.trans ⟨fun h => h.2, fun h => ⟨⟨by omega, by omega, by omega, by omega⟩, h⟩⟩
  clear h1 h2 h3 h4
  go_enter Tryz.func68, Tryz.ntmps68
  go_wp2_with fail
  refine (HC.out _ (by repeat (first | with_reducible exact Below.refl _ _ | with_reducible assumption | with_reducible refine ch_alloc ?_ _ | with_reducible refine Below.drew ?_ | with_reducible refine below_draws _ ?_ | (with_reducible refine Below.setCell ?_ ?_ _; rotate_left; focus (first | with_reducible exact Nat.le_refl _ | (simp; done) | (simp; omega) | (simp at *; omega))) | with_reducible refine ch_trans ?_ (by with_reducible assumption)))).mono ?_
  rintro e w1 ⟨q, rfl, hq, b1⟩
  obtain rfl : q = qz := Bool.eq_iff_iff.2 (hq.trans (HR'.out.symm.trans hqz.symm))
  clear hq hqz HR HR'
  go_wp2
  go_ret
  exact ⟨rfl, (by repeat (first | with_reducible exact Below.refl _ _ | with_reducible assumption | with_reducible refine ch_alloc ?_ _ | with_reducible refine Below.drew ?_ | with_reducible refine below_draws _ ?_ | (with_reducible refine Below.setCell ?_ ?_ _; rotate_left; focus (first | with_reducible exact Nat.le_refl _ | (simp; done) | (simp; omega) | (simp at *; omega))) | with_reducible refine ch_trans ?_ (by with_reducible assumption)))⟩

set_option maxRecDepth 100000 in
set_option maxHeartbeats 2000000 in
/-- spec.BatchOk -/
theorem batchOk_spec (x : Array Value) (t : Btc) (w : World) (hx : BatV w x t) (hf : t.fit) :
    Calls Tryz.prog 29 #[.agg x] w fun e w' => ∃ q : Bool, e = .returned (.bool q) ∧ (q = true ↔ t.right) ∧ Below w.heap.size w w' := by
  obtain ⟨qz, hqz⟩ := bool_of t.right
  suffices H : Calls Tryz.prog 29 #[.agg x] w fun e w' => e = .returned (.bool qz) ∧ Below w.heap.size w w' from H.mono fun e w' ⟨h1, h2⟩ => ⟨qz, h1, hqz, h2⟩
  obtain ⟨a, p, rfl, hs⟩ := hx
  obtain ⟨_, _, e0, hl, hm, _⟩ := hs.lit
  cases e0
  unfold maxLen at hm
  have HX : Hid (PartsV w (.slice a t.parts.length p) t.parts) := hs
  have HF : Hid (pfits t.parts) := hf
  have HR : Hid (t.right ↔ (1 ≤ t.lsn ∧ t.lsn ≤ 400 ∧ 0 ≤ t.prev ∧ t.prev < t.lsn) ∧ t.parts.length ≤ 60 ∧ ∀ i (h : i < t.parts.length), t.parts[i].right) := Iff.rfl
  have HL := Loc.new w #[.int .i64 t.lsn, .int .i64 t.prev, .slice a t.parts.length p] 33
  have hbv : Below w.heap.size w (w.alloc (.cells #[.int .i64 t.lsn, .int .i64 t.prev, .slice a t.parts.length p] 33)) := (by repeat (first | with_reducible exact Below.refl _ _ | with_reducible assumption | with_reducible refine ch_alloc ?_ _ | with_reducible refine Below.drew ?_ | with_reducible refine below_draws _ ?_ | (with_reducible refine Below.setCell ?_ ?_ _; rotate_left; focus (first | with_reducible exact Nat.le_refl _ | (simp; done) | (simp; omega) | (simp at *; omega))) | with_reducible refine ch_trans ?_ (by with_reducible assumption)))
  clear hs hf
  obtain ⟨l0, l1, l2⟩ := HL.three
  obtain ⟨lsn, prev, ts⟩ := t
  simp only at *
  by_cases h1 : lsn < 1
  · have e1 : decide (lsn < 1) = true := by simpa using h1
    obtain rfl : qz = false := by
      rw [← Bool.not_eq_true, hqz]
      intro h
      have := (HR.out.1 h).1
      omega
    go_enter Tryz.func29, Tryz.ntmps29
    go_wp2
    go_ret
    exact ⟨rfl, (by repeat (first | with_reducible exact Below.refl _ _ | with_reducible assumption | with_reducible refine ch_alloc ?_ _ | with_reducible refine Below.drew ?_ | with_reducible refine below_draws _ ?_ | (with_reducible refine Below.setCell ?_ ?_ _; rotate_left; focus (first | with_reducible exact Nat.le_refl _ | (simp; done) | (simp; omega) | (simp at *; omega))) | with_reducible refine ch_trans ?_ (by with_reducible assumption)))⟩
  have d1 : decide (lsn < 1) = false := by simpa using h1
  by_cases h2 : 400 < lsn
  · have e2 : decide (400 < lsn) = true := by simpa using h2
    obtain rfl : qz = false := by
      rw [← Bool.not_eq_true, hqz]
      intro h
      have := (HR.out.1 h).1
      omega
    go_enter Tryz.func29, Tryz.ntmps29
    go_wp2
    go_ret
    exact ⟨rfl, (by repeat (first | with_reducible exact Below.refl _ _ | with_reducible assumption | with_reducible refine ch_alloc ?_ _ | with_reducible refine Below.drew ?_ | with_reducible refine below_draws _ ?_ | (with_reducible refine Below.setCell ?_ ?_ _; rotate_left; focus (first | with_reducible exact Nat.le_refl _ | (simp; done) | (simp; omega) | (simp at *; omega))) | with_reducible refine ch_trans ?_ (by with_reducible assumption)))⟩
  have d2 : decide (400 < lsn) = false := by simp; omega
  by_cases h3 : prev < 0
  · have e3 : decide (prev < 0) = true := by simpa using h3
    obtain rfl : qz = false := by
      rw [← Bool.not_eq_true, hqz]
      intro h
      have := (HR.out.1 h).1
      omega
    go_enter Tryz.func29, Tryz.ntmps29
    go_wp2
    go_ret
    exact ⟨rfl, (by repeat (first | with_reducible exact Below.refl _ _ | with_reducible assumption | with_reducible refine ch_alloc ?_ _ | with_reducible refine Below.drew ?_ | with_reducible refine below_draws _ ?_ | (with_reducible refine Below.setCell ?_ ?_ _; rotate_left; focus (first | with_reducible exact Nat.le_refl _ | (simp; done) | (simp; omega) | (simp at *; omega))) | with_reducible refine ch_trans ?_ (by with_reducible assumption)))⟩
  have d3 : decide (prev < 0) = false := by simpa using h3
  by_cases h4 : lsn ≤ prev
  · have e4 : decide (lsn ≤ prev) = true := by simpa using h4
    obtain rfl : qz = false := by
      rw [← Bool.not_eq_true, hqz]
      intro h
      have := (HR.out.1 h).1
      omega
    go_enter Tryz.func29, Tryz.ntmps29
    go_wp2
    go_ret
    exact ⟨rfl, (by repeat (first | with_reducible exact Below.refl _ _ | with_reducible assumption | with_reducible refine ch_alloc ?_ _ | with_reducible refine Below.drew ?_ | with_reducible refine below_draws _ ?_ | (with_reducible refine Below.setCell ?_ ?_ _; rotate_left; focus (first | with_reducible exact Nat.le_refl _ | (simp; done) | (simp; omega) | (simp at *; omega))) | with_reducible refine ch_trans ?_ (by with_reducible assumption)))⟩
  have d4 : decide (lsn ≤ prev) = false := by simp; omega
  by_cases h5 : 60 < ts.length
  · have d5 : decide ((60 : Int) < ts.length) = true := by simp; omega
    obtain rfl : qz = false := by
      rw [← Bool.not_eq_true, hqz]
      intro h
      have := (HR.out.1 h).2.1
      omega
    go_enter Tryz.func29, Tryz.ntmps29
    go_wp2
    go_ret
    exact ⟨rfl, (by repeat (first | with_reducible exact Below.refl _ _ | with_reducible assumption | with_reducible refine ch_alloc ?_ _ | with_reducible refine Below.drew ?_ | with_reducible refine below_draws _ ?_ | (with_reducible refine Below.setCell ?_ ?_ _; rotate_left; focus (first | with_reducible exact Nat.le_refl _ | (simp; done) | (simp; omega) | (simp at *; omega))) | with_reducible refine ch_trans ?_ (by with_reducible assumption)))⟩
  have d5 : decide ((60 : Int) < ts.length) = false := by simp; omega
  have HR' : Hid (Btc.right ⟨lsn, prev, ts⟩ ↔ ∀ i (h : i < ts.length), ts[i].right) := HR.out.trans ⟨fun h => h.2.2, fun h => ⟨⟨by omega, by omega, by omega, by omega⟩, by omega, h⟩⟩
  clear h1 h2 h3 h4 h5 HR
  have HQZ : Hid (qz = true ↔ Btc.right ⟨lsn, prev, ts⟩) := hqz
  clear hqz
  generalize Btc.right ⟨lsn, prev, ts⟩ = R at HR' HQZ
  go_enter Tryz.func29, Tryz.ntmps29
  go_wp2
  go_loopw [34] (fun i wr => ∃ k : Nat, k ≤ ts.length ∧ i = .int .i64 (k : Int) ∧ Below w.heap.size w wr ∧ Hid (∀ j (h : j < ts.length), j < k → ts[j].right)) (fun i _ => ts.length - (intOf i).toNat)
  case atStart => exact ⟨0, Nat.zero_le _, rfl, (by repeat (first | with_reducible exact Below.refl _ _ | with_reducible assumption | with_reducible refine ch_alloc ?_ _ | with_reducible refine Below.drew ?_ | with_reducible refine below_draws _ ?_ | (with_reducible refine Below.setCell ?_ ?_ _; rotate_left; focus (first | with_reducible exact Nat.le_refl _ | (simp; done) | (simp; omega) | (simp at *; omega))) | with_reducible refine ch_trans ?_ (by with_reducible assumption))), fun j _ h => by omega⟩
  case round =>
    clear l0 l1 l2 d1 d2 d3 d4 d5
    obtain ⟨k, hk, rfl, hb, HN⟩ := hrel
    by_cases hlt : k < ts.length
    · have hlti : (k : Int) < ts.length := by omega
      obtain ⟨b, off, ka, kp, ra, rp, ca, cp, oa, op, ya, yp, za, zp, rfl, hx, f0, f1, f2, f3, f4, f5, f6, f7, f8, f9, f10, f11⟩ := (HX.out.on hb).part k hlt
      obtain ⟨_, _, _, _, _, _, _, _, _, _, _, _, e1, _, hs, hy, hz⟩ := hx.lit
      cases e1
      obtain ⟨qs, hqs⟩ := bool_of ts[k].st.right
      obtain ⟨qy, hqy⟩ := bool_of (fewW ts[k].cols)
      obtain ⟨qk, hqk⟩ := bool_of (fewW ts[k].keys)
      have hfk := HF.out _ (List.getElem_mem hlt)
      have HS : Hid (∀ u : World, Below wr.heap.size wr u → Calls Tryz.prog 61 #[.agg #[.int .i64 ts[k].st.kind, .string ts[k].st.table, .slice ka ts[k].st.key.length kp, .slice ra ts[k].st.row.length rp, .int .i64 ts[k].st.ddl.kind, .string ts[k].st.ddl.table, .slice ca ts[k].st.ddl.cols.length cp, .slice oa ts[k].st.ddl.keys.length op, .string ts[k].st.ddl.name, .string ts[k].st.ddl.to]] u fun e w' => e = .returned (.bool qs) ∧ Below u.heap.size u w') := fun u hu => (stmtOk_spec _ ts[k].st u (hs.on hu) hfk.1).mono fun e w' ⟨q, h1, h2, h3⟩ => ⟨by rw [h1, Bool.eq_iff_iff.2 (h2.trans hqs.symm)], h3⟩
      have HY : Hid (∀ u : World, Below wr.heap.size wr u → Calls Tryz.prog 62 #[.slice ya ts[k].cols.length yp] u fun e w' => e = .returned (.bool qy) ∧ Below u.heap.size u w') := fun u hu => (words_spec _ ts[k].cols u (hy.on hu) hfk.2.1).mono fun e w' ⟨q, h1, h2, h3⟩ => ⟨by rw [h1, Bool.eq_iff_iff.2 (h2.trans hqy.symm)], h3⟩
      have HZ : Hid (∀ u : World, Below wr.heap.size wr u → Calls Tryz.prog 62 #[.slice za ts[k].keys.length zp] u fun e w' => e = .returned (.bool qk) ∧ Below u.heap.size u w') := fun u hu => (words_spec _ ts[k].keys u (hz.on hu) hfk.2.2).mono fun e w' ⟨q, h1, h2, h3⟩ => ⟨by rw [h1, Bool.eq_iff_iff.2 (h2.trans hqk.symm)], h3⟩
      have HQ : Hid ((qs && qy && qk) = true ↔ ts[k].right) := by
        show _ ↔ _
        rw [Bool.and_eq_true, Bool.and_eq_true, hqs, hqy, hqk, Ptc.right, and_assoc]
      have HT : Hid (¬ ts[k].right → ¬ R) := fun h g => h (HR'.out.1 g k hlt)
      have HG : Hid (ts[k].right → ∀ j (h : j < ts.length), j < k + 1 → ts[j].right) := fun hq i h hi => by
        by_cases e : i = k
        · subst e; exact hq
        · exact HN.out i h (by omega)
      have HLk := Loc.new wr #[.int .i64 ts[k].st.kind, .string ts[k].st.table, .slice ka ts[k].st.key.length kp, .slice ra ts[k].st.row.length rp, .int .i64 ts[k].st.ddl.kind, .string ts[k].st.ddl.table, .slice ca ts[k].st.ddl.cols.length cp, .slice oa ts[k].st.ddl.keys.length op, .string ts[k].st.ddl.name, .string ts[k].st.ddl.to, .slice ya ts[k].cols.length yp, .slice za ts[k].keys.length zp] 68
      have hbk : Below wr.heap.size wr (wr.alloc (.cells #[.int .i64 ts[k].st.kind, .string ts[k].st.table, .slice ka ts[k].st.key.length kp, .slice ra ts[k].st.row.length rp, .int .i64 ts[k].st.ddl.kind, .string ts[k].st.ddl.table, .slice ca ts[k].st.ddl.cols.length cp, .slice oa ts[k].st.ddl.keys.length op, .string ts[k].st.ddl.name, .string ts[k].st.ddl.to, .slice ya ts[k].cols.length yp, .slice za ts[k].keys.length zp] 68)) := (by repeat (first | with_reducible exact Below.refl _ _ | with_reducible assumption | with_reducible refine ch_alloc ?_ _ | with_reducible refine Below.drew ?_ | with_reducible refine below_draws _ ?_ | (with_reducible refine Below.setCell ?_ ?_ _; rotate_left; focus (first | with_reducible exact Nat.le_refl _ | (simp; done) | (simp; omega) | (simp at *; omega))) | with_reducible refine ch_trans ?_ (by with_reducible assumption)))
      clear hx hs hy hz hqs hqy hqk hfk
      go_wp2_with fail
      generalize wr.alloc (.cells #[.int .i64 ts[k].st.kind, .string ts[k].st.table, .slice ka ts[k].st.key.length kp, .slice ra ts[k].st.row.length rp, .int .i64 ts[k].st.ddl.kind, .string ts[k].st.ddl.table, .slice ca ts[k].st.ddl.cols.length cp, .slice oa ts[k].st.ddl.keys.length op, .string ts[k].st.ddl.name, .string ts[k].st.ddl.to, .slice ya ts[k].cols.length yp, .slice za ts[k].keys.length zp] 68) = wk at HLk hbk ⊢
      refine (HS.out _ hbk).mono ?_
      rintro e w1 ⟨rfl, b1⟩
      have HL1 := HLk.on b1
      have hb1 := ch_trans hbk b1
      clear b1 hbk HLk
      obtain ⟨c0, c1, c2, c3, c4, c5, c6, c7, c8, c9, c10, c11⟩ := HL1.twelve
      cases qs
      · have HNR := HT.out (fun h => by have := HQ.out.2 h; simp at this)
        obtain rfl : qz = false := by rw [← Bool.not_eq_true, HQZ.out]; exact HNR
        go_wp2
        go_ret
        exact ⟨rfl, (by repeat (first | with_reducible exact Below.refl _ _ | with_reducible assumption | with_reducible refine ch_alloc ?_ _ | with_reducible refine Below.drew ?_ | with_reducible refine below_draws _ ?_ | (with_reducible refine Below.setCell ?_ ?_ _; rotate_left; focus (first | with_reducible exact Nat.le_refl _ | (simp; done) | (simp; omega) | (simp at *; omega))) | with_reducible refine ch_trans ?_ (by with_reducible assumption)))⟩
      go_wp2_with fail
      refine (HY.out _ hb1).mono ?_
      rintro e w2 ⟨rfl, b2⟩
      have HL2 := HL1.on b2
      have hb2 := ch_trans hb1 b2
      clear b2 hb1 HL1 c0 c1 c2 c3 c4 c5 c6 c7 c8 c9 c10 c11
      obtain ⟨c0, c1, c2, c3, c4, c5, c6, c7, c8, c9, c10, c11⟩ := HL2.twelve
      cases qy
      · have HNR := HT.out (fun h => by have := HQ.out.2 h; simp at this)
        obtain rfl : qz = false := by rw [← Bool.not_eq_true, HQZ.out]; exact HNR
        go_wp2
        go_ret
        exact ⟨rfl, (by repeat (first | with_reducible exact Below.refl _ _ | with_reducible assumption | with_reducible refine ch_alloc ?_ _ | with_reducible refine Below.drew ?_ | with_reducible refine below_draws _ ?_ | (with_reducible refine Below.setCell ?_ ?_ _; rotate_left; focus (first | with_reducible exact Nat.le_refl _ | (simp; done) | (simp; omega) | (simp at *; omega))) | with_reducible refine ch_trans ?_ (by with_reducible assumption)))⟩
      go_wp2_with fail
      refine (HZ.out _ hb2).mono ?_
      rintro e w3 ⟨rfl, b3⟩
      cases qk
      · have HNR := HT.out (fun h => by have := HQ.out.2 h; simp at this)
        obtain rfl : qz = false := by rw [← Bool.not_eq_true, HQZ.out]; exact HNR
        go_wp2
        go_ret
        exact ⟨rfl, (by repeat (first | with_reducible exact Below.refl _ _ | with_reducible assumption | with_reducible refine ch_alloc ?_ _ | with_reducible refine Below.drew ?_ | with_reducible refine below_draws _ ?_ | (with_reducible refine Below.setCell ?_ ?_ _; rotate_left; focus (first | with_reducible exact Nat.le_refl _ | (simp; done) | (simp; omega) | (simp at *; omega))) | with_reducible refine ch_trans ?_ (by with_reducible assumption)))⟩
      have HN' : Hid (∀ j (h : j < ts.length), j < k + 1 → ts[j].right) := HG.out (HQ.out.1 rfl)
      have hb3 := ch_trans hb (ch_trans hb2 b3)
      clear hb2 b3 c0 c1 c2 c3 c4 c5 c6 c7 c8 c9 c10 c11
      go_wp2
      go_round
      case rel => exact ⟨k + 1, by omega, by go_num, hb3, HN'⟩
      case measure => simp [intOf]; omega
    · have hlti : (ts.length : Int) ≤ k := by omega
      obtain rfl : qz = true := HQZ.out.2 (HR'.out.2 fun i h => HN.out i h (by omega))
      go_wp2
      go_ret
      exact ⟨rfl, (by repeat (first | with_reducible exact Below.refl _ _ | with_reducible assumption | with_reducible refine ch_alloc ?_ _ | with_reducible refine Below.drew ?_ | with_reducible refine below_draws _ ?_ | (with_reducible refine Below.setCell ?_ ?_ _; rotate_left; focus (first | with_reducible exact Nat.le_refl _ | (simp; done) | (simp; omega) | (simp at *; omega))) | with_reducible refine ch_trans ?_ (by with_reducible assumption)))⟩
end Go.Proofs.YtiijahoheajppaaGreat
