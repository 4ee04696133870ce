/- Whether a log has begun a transaction: given and landed. -/
import Derived.Test.YtmcjchaokpcomaaRl
namespace Go.Proofs.Ytmcjchaokpcomaa
open Go.ChangeShapes Go.WideShapes Go.ChangeAt Go.RowKit
/-- The record begins x. -/
def beganB (x : Int) (t : Lc) : Bool := decide (t.kind = 1) && decide (t.xid = x)
theorem began_any_false {x : Int} {ts : List Lc} (h : ∀ i (h : i < ts.length), beganB x ts[i] = false) : ts.any (beganB x) = false := by
  rw [List.any_eq_false]
  intro t ht
  obtain ⟨i, hi, rfl⟩ := List.getElem_of_mem ht
  simp [h i hi]
theorem began_any_true {x : Int} {ts : List Lc} {k : Nat} (hk : k < ts.length) (h : beganB x ts[k] = true) : ts.any (beganB x) = true := List.any_eq_true.2 ⟨_, List.getElem_mem hk, h⟩

set_option maxRecDepth 100000 in
set_option maxHeartbeats 1000000 in
/-- The closure that impl.Used hands on. -/
theorem usedFn_any (X : Nat) (x : Int) (y : Array Value) (t : Lc) (w : World) (hy : RecV w y t) (hX : w.cell? ⟨X, 0, none⟩ = some (.int .i64 x)) :
    Calls Try.prog 44 #[.agg y, .pointer (some ⟨X, 0, none⟩)] w fun e w' => e = .returned (.bool (beganB x t)) ∧ Below w.heap.size w w' := by
  obtain ⟨ka, kp, ra, rp, ca, cp, oa, op, rfl, _, _⟩ := hy.lit
  clear hy
  have hX1 : (w.alloc (.cells #[.int .i64 t.kind, .int .i64 t.xid, .int .i64 t.st.kind, .string t.st.table, .slice ka t.st.key.length kp, .slice ra t.st.row.length rp, .int .i64 t.st.ddl.kind, .string t.st.ddl.table, .slice ca t.st.ddl.cols.length cp, .slice oa t.st.ddl.keys.length op, .string t.st.ddl.name, .string t.st.ddl.to] 44)).cell? ⟨X, 0, none⟩ = some (.int .i64 x) := cell_on hX (ch_alloc (Below.refl _ _) _)
  by_cases h1 : t.kind = 1
  · by_cases h2 : t.xid = x
    · have HB : beganB x t = true := by simp [beganB, h1, h2]
      rw [HB]
      have j1 : (t.kind == 1) = true := by simpa using h1
      have j2 : (t.xid == x) = true := by simpa using h2
      clear HB h1 h2
      go_enter Try.func44, Try.ntmps44
      go_wp2
      go_ret
      exact ⟨rfl, (by repeat (first | with_reducible exact Below.refl _ _ | with_reducible assumption | with_reducible refine ch_alloc ?_ _ | with_reducible refine Below.drew ?_ | with_reducible refine below_draws _ ?_ | (with_reducible refine Below.setCell ?_ ?_ _; rotate_left; focus (first | with_reducible exact Nat.le_refl _ | (simp; done) | (simp; omega) | (simp at *; omega))) | with_reducible refine ch_trans ?_ (by with_reducible assumption)))⟩
    · have HB : beganB x t = false := by simp [beganB, h1, h2]
      rw [HB]
      have j1 : (t.kind == 1) = true := by simpa using h1
      have j2 : (t.xid == x) = false := by simpa using h2
      clear HB h1 h2
      go_enter Try.func44, Try.ntmps44
      go_wp2
      go_ret
      exact ⟨rfl, (by repeat (first | with_reducible exact Below.refl _ _ | with_reducible assumption | with_reducible refine ch_alloc ?_ _ | with_reducible refine Below.drew ?_ | with_reducible refine below_draws _ ?_ | (with_reducible refine Below.setCell ?_ ?_ _; rotate_left; focus (first | with_reducible exact Nat.le_refl _ | (simp; done) | (simp; omega) | (simp at *; omega))) | with_reducible refine ch_trans ?_ (by with_reducible assumption)))⟩
  · have HB : beganB x t = false := by simp [beganB, h1]
    rw [HB]
    have j1 : (t.kind == 1) = false := by simpa using h1
    clear HB h1
    go_enter Try.func44, Try.ntmps44
    go_wp2
    go_ret
    exact ⟨rfl, (by repeat (first | with_reducible exact Below.refl _ _ | with_reducible assumption | with_reducible refine ch_alloc ?_ _ | with_reducible refine Below.drew ?_ | with_reducible refine below_draws _ ?_ | (with_reducible refine Below.setCell ?_ ?_ _; rotate_left; focus (first | with_reducible exact Nat.le_refl _ | (simp; done) | (simp; omega) | (simp at *; omega))) | with_reducible refine ch_trans ?_ (by with_reducible assumption)))⟩

set_option maxRecDepth 100000 in
set_option maxHeartbeats 1000000 in
/-- slices.IndexFunc over records, with that closure. -/
theorem usedIx_any (X : Nat) (x : Int) (v : Value) (ts : List Lc) (w : World) (hx : RecsV w v ts) (hX : w.cell? ⟨X, 0, none⟩ = some (.int .i64 x)) :
    Calls Try.prog 69 #[v, .func (.func 44) #[] #[.pointer (some ⟨X, 0, none⟩)]] w fun e w' => ∃ r : Int, e = .returned (.int .i64 r) ∧ ((0 ≤ r ∧ ts.any (beganB x) = true) ∨ (r = -1 ∧ ts.any (beganB x) = false)) ∧ Below w.heap.size w w' := by
  obtain ⟨a, cap, rfl, hl, hm, hx⟩ := hx.lit
  unfold maxLen at hm
  have HX : Hid (RecsV w (.slice a ts.length cap) ts) := hx
  have HV : Hid (w.cell? ⟨X, 0, none⟩ = some (.int .i64 x)) := hX
  clear hx hX
  go_enter Try.func69, Try.ntmps69
  go_wp2
  go_loopw [8] (fun i wr => ∃ k : Nat, k ≤ ts.length ∧ i = .int .i64 k ∧ Below w.heap.size w wr ∧ Hid (∀ i (h : i < ts.length), i < k → beganB x ts[i] = false)) (fun i _ => ts.length - (intOf i).toNat)
  case atStart => exact ⟨0, Nat.zero_le _, rfl, (by repeat (first | with_reducible exact Below.refl _ _ | with_reducible assumption | with_reducible refine ch_alloc ?_ _ | with_reducible refine Below.drew ?_ | with_reducible refine below_draws _ ?_ | (with_reducible refine Below.setCell ?_ ?_ _; rotate_left; focus (first | with_reducible exact Nat.le_refl _ | (simp; done) | (simp; omega) | (simp at *; omega))) | with_reducible refine ch_trans ?_ (by with_reducible assumption))), fun i h hi => by omega⟩
  case round =>
    obtain ⟨k, hk, rfl, hb, HN⟩ := hrel
    by_cases hlt : k < ts.length
    · have hlti : (k : Int) < ts.length := by omega
      obtain ⟨b, off, ka, kp, ra, rp, ca, cp, oa, op, rfl, hx, d0, d1, d2, d3, d4, d5, d6, d7, d8, d9, d10, d11⟩ := (HX.out.on hb).rec k hlt
      have HY : Hid (RecV wr #[.int .i64 ts[k].kind, .int .i64 ts[k].xid, .int .i64 ts[k].st.kind, .string ts[k].st.table, .slice ka ts[k].st.key.length kp, .slice ra ts[k].st.row.length rp, .int .i64 ts[k].st.ddl.kind, .string ts[k].st.ddl.table, .slice ca ts[k].st.ddl.cols.length cp, .slice oa ts[k].st.ddl.keys.length op, .string ts[k].st.ddl.name, .string ts[k].st.ddl.to] ts[k]) := hx
      have HC : Hid (∀ u : World, Below wr.heap.size wr u → Calls Try.prog 44 #[.agg #[.int .i64 ts[k].kind, .int .i64 ts[k].xid, .int .i64 ts[k].st.kind, .string ts[k].st.table, .slice ka ts[k].st.key.length kp, .slice ra ts[k].st.row.length rp, .int .i64 ts[k].st.ddl.kind, .string ts[k].st.ddl.table, .slice ca ts[k].st.ddl.cols.length cp, .slice oa ts[k].st.ddl.keys.length op, .string ts[k].st.ddl.name, .string ts[k].st.ddl.to], .pointer (some ⟨X, 0, none⟩)] u fun e w' => e = .returned (.bool (beganB x ts[k])) ∧ Below u.heap.size u w') := fun u hu => usedFn_any X x _ ts[k] u (HY.out.on hu) (cell_on (cell_on HV.out hb) hu)
      have HT : Hid (beganB x ts[k] = true → ts.any (beganB x) = true) := began_any_true hlt
      have HG : Hid (beganB x ts[k] = false → ∀ i (h : i < ts.length), i < k + 1 → beganB x ts[i] = false) := fun hq i h hi => by
        by_cases e : i = k
        · subst e; exact hq
        · exact HN.out i h (by omega)
      generalize beganB x ts[k] = q at HC HT HG
      clear hx HY
      go_wp2_with fail
      refine (HC.out _ (by repeat (first | with_reducible exact Below.refl _ _ | with_reducible assumption | with_reducible refine ch_alloc ?_ _ | with_reducible refine Below.drew ?_ | with_reducible refine below_draws _ ?_ | (with_reducible refine Below.setCell ?_ ?_ _; rotate_left; focus (first | with_reducible exact Nat.le_refl _ | (simp; done) | (simp; omega) | (simp at *; omega))) | with_reducible refine ch_trans ?_ (by with_reducible assumption)))).mono ?_
      rintro e w1 ⟨rfl, b1⟩
      cases q
      · have HN' : Hid (∀ i (h : i < ts.length), i < k + 1 → beganB x ts[i] = false) := HG.out rfl
        go_wp2
        go_round
        case rel => exact ⟨k + 1, by omega, by go_num, (by repeat (first | with_reducible exact Below.refl _ _ | with_reducible assumption | with_reducible refine ch_alloc ?_ _ | with_reducible refine Below.drew ?_ | with_reducible refine below_draws _ ?_ | (with_reducible refine Below.setCell ?_ ?_ _; rotate_left; focus (first | with_reducible exact Nat.le_refl _ | (simp; done) | (simp; omega) | (simp at *; omega))) | with_reducible refine ch_trans ?_ (by with_reducible assumption))), HN'⟩
        case measure => simp [intOf]; omega
      · have HQ : Hid (ts.any (beganB x) = true) := HT.out rfl
        go_wp2
        go_ret
        exact ⟨_, rfl, Or.inl ⟨by omega, HQ.out⟩, (by repeat (first | with_reducible exact Below.refl _ _ | with_reducible assumption | with_reducible refine ch_alloc ?_ _ | with_reducible refine Below.drew ?_ | with_reducible refine below_draws _ ?_ | (with_reducible refine Below.setCell ?_ ?_ _; rotate_left; focus (first | with_reducible exact Nat.le_refl _ | (simp; done) | (simp; omega) | (simp at *; omega))) | with_reducible refine ch_trans ?_ (by with_reducible assumption)))⟩
    · have hlti : (ts.length : Int) ≤ k := by omega
      have HQ : Hid (ts.any (beganB x) = false) := began_any_false fun i h => HN.out i h (by omega)
      go_wp2
      go_ret
      exact ⟨_, rfl, Or.inr ⟨rfl, HQ.out⟩, (by repeat (first | with_reducible exact Below.refl _ _ | with_reducible assumption | with_reducible refine ch_alloc ?_ _ | with_reducible refine Below.drew ?_ | with_reducible refine below_draws _ ?_ | (with_reducible refine Below.setCell ?_ ?_ _; rotate_left; focus (first | with_reducible exact Nat.le_refl _ | (simp; done) | (simp; omega) | (simp at *; omega))) | with_reducible refine ch_trans ?_ (by with_reducible assumption)))⟩

set_option maxRecDepth 100000 in
/-- slices.ContainsFunc over records, with that closure. -/
theorem usedHas_any (X : Nat) (x : Int) (v : Value) (ts : List Lc) (w : World) (hx : RecsV w v ts) (hX : w.cell? ⟨X, 0, none⟩ = some (.int .i64 x)) :
    Calls Try.prog 43 #[v, .func (.func 44) #[] #[.pointer (some ⟨X, 0, none⟩)]] w fun e w' => e = .returned (.bool (ts.any (beganB x))) ∧ Below w.heap.size w w' := by
  have HC : Hid (∀ u : World, Below w.heap.size w u → Calls Try.prog 69 #[v, .func (.func 44) #[] #[.pointer (some ⟨X, 0, none⟩)]] u fun e w' => ∃ r : Int, e = .returned (.int .i64 r) ∧ ((0 ≤ r ∧ ts.any (beganB x) = true) ∨ (r = -1 ∧ ts.any (beganB x) = false)) ∧ Below u.heap.size u w') := fun u hu => usedIx_any X x v ts u (hx.on hu) (cell_on hX hu)
  obtain ⟨a, cap, rfl, hl, hm, _⟩ := hx.lit
  clear hx hX
  generalize ts.any (beganB x) = q at HC ⊢
  go_enter Try.func43, Try.ntmps43
  go_wp2_with fail
  refine (HC.out _ (by repeat (first | with_reducible exact Below.refl _ _ | with_reducible assumption | with_reducible refine ch_alloc ?_ _ | with_reducible refine Below.drew ?_ | with_reducible refine below_draws _ ?_ | (with_reducible refine Below.setCell ?_ ?_ _; rotate_left; focus (first | with_reducible exact Nat.le_refl _ | (simp; done) | (simp; omega) | (simp at *; omega))) | with_reducible refine ch_trans ?_ (by with_reducible assumption)))).mono ?_
  rintro e w1 ⟨r, rfl, hr, b1⟩
  rcases hr with ⟨h0, rfl⟩ | ⟨rfl, rfl⟩
  · have hd : decide (0 ≤ r) = true := by simpa using h0
    go_wp2
    go_ret
    exact ⟨rfl, (by repeat (first | with_reducible exact Below.refl _ _ | with_reducible assumption | with_reducible refine ch_alloc ?_ _ | with_reducible refine Below.drew ?_ | with_reducible refine below_draws _ ?_ | (with_reducible refine Below.setCell ?_ ?_ _; rotate_left; focus (first | with_reducible exact Nat.le_refl _ | (simp; done) | (simp; omega) | (simp at *; omega))) | with_reducible refine ch_trans ?_ (by with_reducible assumption)))⟩
  · go_wp2
    go_ret
    exact ⟨rfl, (by repeat (first | with_reducible exact Below.refl _ _ | with_reducible assumption | with_reducible refine ch_alloc ?_ _ | with_reducible refine Below.drew ?_ | with_reducible refine below_draws _ ?_ | (with_reducible refine Below.setCell ?_ ?_ _; rotate_left; focus (first | with_reducible exact Nat.le_refl _ | (simp; done) | (simp; omega) | (simp at *; omega))) | with_reducible refine ch_trans ?_ (by with_reducible assumption)))⟩

set_option maxRecDepth 100000 in
/-- impl.Used -/
theorem used_impl (x : Int) (v : Value) (ts : List Lc) (w : World) (hx : RecsV w v ts) :
    Calls Try.prog 22 #[v, .int .i64 x] w fun e w' => e = .returned (.bool (ts.any (beganB x))) ∧ Below w.heap.size w w' := by
  have hmf : ∀ (fn : Fn) (first cap : Array Value) (w : World), (Instr.makeFunc fn first cap).run Try.prog w = .ok (.func fn first cap) w := fun _ _ _ _ => rfl
  have HC : Hid (∀ u : World, Below w.heap.size w u → u.cell? ⟨w.heap.size, 0, none⟩ = some (.int .i64 x) → Calls Try.prog 43 #[v, .func (.func 44) #[] #[.pointer (some ⟨w.heap.size, 0, none⟩)]] u fun e w' => e = .returned (.bool (ts.any (beganB x))) ∧ Below u.heap.size u w') := fun u hu hX => usedHas_any w.heap.size x v ts u (hx.on hu) hX
  have h0 := (Loc.new w #[.int .i64 x] 3).one
  obtain ⟨a, cap, rfl, hl, hm, _⟩ := hx.lit
  clear hx
  go_enter Try.func22, Try.ntmps22
  go_wp2_with fail
  refine (HC.out _ (by repeat (first | with_reducible exact Below.refl _ _ | with_reducible assumption | with_reducible refine ch_alloc ?_ _ | with_reducible refine Below.drew ?_ | with_reducible refine below_draws _ ?_ | (with_reducible refine Below.setCell ?_ ?_ _; rotate_left; focus (first | with_reducible exact Nat.le_refl _ | (simp; done) | (simp; omega) | (simp at *; omega))) | with_reducible refine ch_trans ?_ (by with_reducible assumption))) h0).mono ?_
  rintro e w1 ⟨rfl, b1⟩
  go_wp2
  go_ret
  exact ⟨rfl, (by repeat (first | with_reducible exact Below.refl _ _ | with_reducible assumption | with_reducible refine ch_alloc ?_ _ | with_reducible refine Below.drew ?_ | with_reducible refine below_draws _ ?_ | (with_reducible refine Below.setCell ?_ ?_ _; rotate_left; focus (first | with_reducible exact Nat.le_refl _ | (simp; done) | (simp; omega) | (simp at *; omega))) | with_reducible refine ch_trans ?_ (by with_reducible assumption)))⟩

set_option maxRecDepth 100000 in
set_option maxHeartbeats 1000000 in
/-- spec.Used -/
theorem used_spec (x : Int) (v : Value) (ts : List Lc) (w : World) (hx : RecsV w v ts) :
    Calls Try.prog 21 #[v, .int .i64 x] w fun e w' => e = .returned (.bool (ts.any (beganB x))) ∧ Below w.heap.size w w' := by
  obtain ⟨a, cap, rfl, hl, hm, hx⟩ := hx.lit
  unfold maxLen at hm
  have HX : Hid (RecsV w (.slice a ts.length cap) ts) := hx
  have HT0 : Hid (∀ k (hk : k < ts.length), beganB x ts[k] = true → ts.any (beganB x) = true) := fun k hk => began_any_true hk
  have HF0 : Hid ((∀ i (h : i < ts.length), beganB x ts[i] = false) → ts.any (beganB x) = false) := began_any_false
  generalize ts.any (beganB x) = Q at HT0 HF0 ⊢
  clear hx
  go_enter Try.func21, Try.ntmps21
  go_wp2
  go_loopw [9] (fun i wr => ∃ k : Nat, k ≤ ts.length ∧ i = .int .i64 k ∧ Below w.heap.size w wr ∧ Hid (∀ i (h : i < ts.length), i < k → beganB x ts[i] = false)) (fun i _ => ts.length - (intOf i).toNat)
  case atStart => exact ⟨0, Nat.zero_le _, rfl, (by repeat (first | with_reducible exact Below.refl _ _ | with_reducible assumption | with_reducible refine ch_alloc ?_ _ | with_reducible refine Below.drew ?_ | with_reducible refine below_draws _ ?_ | (with_reducible refine Below.setCell ?_ ?_ _; rotate_left; focus (first | with_reducible exact Nat.le_refl _ | (simp; done) | (simp; omega) | (simp at *; omega))) | with_reducible refine ch_trans ?_ (by with_reducible assumption))), fun i h hi => by omega⟩
  case round =>
    obtain ⟨k, hk, rfl, hb, HN⟩ := hrel
    by_cases hlt : k < ts.length
    · have hlti : (k : Int) < ts.length := by omega
      obtain ⟨b, off, ka, kp, ra, rp, ca, cp, oa, op, rfl, hx, d0, d1, d2, d3, d4, d5, d6, d7, d8, d9, d10, d11⟩ := (HX.out.on hb).rec k hlt
      have HT : Hid (beganB x ts[k] = true → Q = true) := HT0.out k hlt
      have HG : Hid (beganB x ts[k] = false → ∀ i (h : i < ts.length), i < k + 1 → beganB x ts[i] = false) := fun hq i h hi => by
        by_cases e : i = k
        · subst e; exact hq
        · exact HN.out i h (by omega)
      clear hx
      by_cases h1 : ts[k].kind = 1
      · have j1 : (ts[k].kind == 1) = true := by simpa using h1
        by_cases h2 : ts[k].xid = x
        · have HQ : Q = true := HT.out (by simp [beganB, h1, h2])
          subst HQ
          have j2 : (ts[k].xid == x) = true := by simpa using h2
          clear h1 h2 HG HT
          go_wp2
          go_ret
          exact ⟨rfl, (by repeat (first | with_reducible exact Below.refl _ _ | with_reducible assumption | with_reducible refine ch_alloc ?_ _ | with_reducible refine Below.drew ?_ | with_reducible refine below_draws _ ?_ | (with_reducible refine Below.setCell ?_ ?_ _; rotate_left; focus (first | with_reducible exact Nat.le_refl _ | (simp; done) | (simp; omega) | (simp at *; omega))) | with_reducible refine ch_trans ?_ (by with_reducible assumption)))⟩
        · have HN' := HG.out (by simp [beganB, h1, h2])
          have HN2 : Hid (∀ i (h : i < ts.length), i < k + 1 → beganB x ts[i] = false) := HN'
          have j2 : (ts[k].xid == x) = false := by simpa using h2
          clear h1 h2 HG HT HN'
          go_wp2
          go_round
          case rel => exact ⟨k + 1, by omega, by go_num, (by repeat (first | with_reducible exact Below.refl _ _ | with_reducible assumption | with_reducible refine ch_alloc ?_ _ | with_reducible refine Below.drew ?_ | with_reducible refine below_draws _ ?_ | (with_reducible refine Below.setCell ?_ ?_ _; rotate_left; focus (first | with_reducible exact Nat.le_refl _ | (simp; done) | (simp; omega) | (simp at *; omega))) | with_reducible refine ch_trans ?_ (by with_reducible assumption))), HN2⟩
          case measure => simp [intOf]; omega
      · have HN' := HG.out (by simp [beganB, h1])
        have HN2 : Hid (∀ i (h : i < ts.length), i < k + 1 → beganB x ts[i] = false) := HN'
        have j1 : (ts[k].kind == 1) = false := by simpa using h1
        clear h1 HG HT HN'
        go_wp2
        go_round
        case rel => exact ⟨k + 1, by omega, by go_num, (by repeat (first | with_reducible exact Below.refl _ _ | with_reducible assumption | with_reducible refine ch_alloc ?_ _ | with_reducible refine Below.drew ?_ | with_reducible refine below_draws _ ?_ | (with_reducible refine Below.setCell ?_ ?_ _; rotate_left; focus (first | with_reducible exact Nat.le_refl _ | (simp; done) | (simp; omega) | (simp at *; omega))) | with_reducible refine ch_trans ?_ (by with_reducible assumption))), HN2⟩
        case measure => simp [intOf]; omega
    · have hlti : (ts.length : Int) ≤ k := by omega
      have HQ : Q = false := HF0.out fun i h => HN.out i h (by omega)
      subst HQ
      go_wp2
      go_ret
      exact ⟨rfl, (by repeat (first | with_reducible exact Below.refl _ _ | with_reducible assumption | with_reducible refine ch_alloc ?_ _ | with_reducible refine Below.drew ?_ | with_reducible refine below_draws _ ?_ | (with_reducible refine Below.setCell ?_ ?_ _; rotate_left; focus (first | with_reducible exact Nat.le_refl _ | (simp; done) | (simp; omega) | (simp at *; omega))) | with_reducible refine ch_trans ?_ (by with_reducible assumption)))⟩
end Go.Proofs.Ytmcjchaokpcomaa
