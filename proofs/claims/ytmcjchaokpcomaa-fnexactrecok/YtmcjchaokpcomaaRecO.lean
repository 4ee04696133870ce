/- Whether a record is right, given and landed. -/
import Derived.Test.YtmcjchaokpcomaaRe
import Derived.Test.YtmcjchaokpcomaaStS
import Derived.Test.YtmcjchaokpcomaaStI
namespace Go.Proofs.Ytmcjchaokpcomaa
open Go.ChangeShapes Go.WideShapes Go.ChangeAt Go.RowKit

/-- No statement. -/
def Sc.nilB (s : Sc) : Bool := decide (s.kind = 0) && noneB s.table && decide (s.key.length = 0) && decide (s.row.length = 0) && s.ddl.nilB
/-- A record is right. -/
def Lc.right (t : Lc) : Prop := (1 ≤ t.xid ∧ t.xid ≤ 1000000) ∧ ((t.kind = 2 ∧ t.st.right) ∨ ((t.kind = 1 ∨ t.kind = 3 ∨ t.kind = 4) ∧ t.st.nilB = true))

set_option maxRecDepth 100000 in
set_option maxHeartbeats 1000000 in
/-- spec.l07NoStmt -/
theorem noStmt_spec (x : Array Value) (t : Sc) (w : World) (hx : StmtV w x t) : Calls Try.prog 30 #[.agg x] w fun e w' => e = .returned (.bool t.nilB) ∧ Below w.heap.size w w' := by
  obtain ⟨ka, kp, ra, rp, ca, cp, oa, op, rfl, hk, hr, hc, ho⟩ := hx.lit
  have hlk : t.key.length ≤ 9223372036854775807 := by obtain ⟨_, _, e, h1, h2, _⟩ := hk; unfold maxLen at h2; omega
  have hlr : t.row.length ≤ 9223372036854775807 := by obtain ⟨_, _, e, h1, h2, _⟩ := hr; unfold maxLen at h2; omega
  obtain ⟨kind, table, key, row, ⟨dk, dt, cs, ks, dn, to⟩⟩ := t
  simp only [Sc.cells] at *
  have HNV : Hid (∀ u : World, Below w.heap.size w u → Calls Try.prog 55 #[.agg #[.int .i64 dk, .string dt, .slice ca cs.length cp, .slice oa ks.length op, .string dn, .string to]] u fun e w' => e = .returned (.bool (Dc.nilB ⟨dk, dt, cs, ks, dn, to⟩)) ∧ Below u.heap.size u w') := fun u hu => nil_spec _ ⟨dk, dt, cs, ks, dn, to⟩ u ⟨_, _, rfl, hc.on hu, ho.on hu⟩
  have HR0 : Sc.nilB ⟨kind, table, key, row, ⟨dk, dt, cs, ks, dn, to⟩⟩ = Sc.nilB ⟨kind, table, key, row, ⟨dk, dt, cs, ks, dn, to⟩⟩ := rfl
  conv at HR0 => rhs; unfold Sc.nilB
  generalize Sc.nilB ⟨kind, table, key, row, ⟨dk, dt, cs, ks, dn, to⟩⟩ = R at HR0 ⊢
  simp only at HR0
  generalize Dc.nilB ⟨dk, dt, cs, ks, dn, to⟩ = qn at HR0 HNV
  have HR : Hid (R = _) := HR0
  clear HR0 hx hk hr hc ho
  go_enter Try.func30, Try.ntmps30
  go_wp2_with (first | (go_at_call 55; refine (HNV.out _ (by repeat (first | with_reducible exact Below.refl _ _ | with_reducible assumption | with_reducible refine ch_alloc ?_ _ | with_reducible refine Below.drew ?_ | with_reducible refine below_draws _ ?_ | (with_reducible refine Below.setCell ?_ ?_ _; rotate_left; focus (first | with_reducible exact Nat.le_refl _ | (simp; done) | (simp; omega) | (simp at *; omega))) | with_reducible refine ch_trans ?_ (by with_reducible assumption)))).mono ?_; rintro e w3 ⟨rfl, b3⟩) | fail)
  all_goals
    go_ret
    exact ⟨by rw [HR.out]; simp [noneB, *], (by repeat (first | with_reducible exact Below.refl _ _ | with_reducible assumption | with_reducible refine ch_alloc ?_ _ | with_reducible refine Below.drew ?_ | with_reducible refine below_draws _ ?_ | (with_reducible refine Below.setCell ?_ ?_ _; rotate_left; focus (first | with_reducible exact Nat.le_refl _ | (simp; done) | (simp; omega) | (simp at *; omega))) | with_reducible refine ch_trans ?_ (by with_reducible assumption)))⟩

set_option maxRecDepth 100000 in
set_option maxHeartbeats 1000000 in
/-- impl.noStmt -/
theorem noStmt_impl (x : Array Value) (t : Sc) (w : World) (hx : StmtV w x t) : Calls Try.prog 32 #[.agg x] w fun e w' => e = .returned (.bool t.nilB) ∧ Below w.heap.size w w' := by
  obtain ⟨ka, kp, ra, rp, ca, cp, oa, op, rfl, hk, hr, hc, ho⟩ := hx.lit
  have hlk : t.key.length ≤ 9223372036854775807 := by obtain ⟨_, _, e, h1, h2, _⟩ := hk; unfold maxLen at h2; omega
  have hlr : t.row.length ≤ 9223372036854775807 := by obtain ⟨_, _, e, h1, h2, _⟩ := hr; unfold maxLen at h2; omega
  obtain ⟨kind, table, key, row, ⟨dk, dt, cs, ks, dn, to⟩⟩ := t
  simp only [Sc.cells] at *
  have HNV : Hid (∀ u : World, Below w.heap.size w u → Calls Try.prog 60 #[.agg #[.int .i64 dk, .string dt, .slice ca cs.length cp, .slice oa ks.length op, .string dn, .string to]] u fun e w' => e = .returned (.bool (Dc.nilB ⟨dk, dt, cs, ks, dn, to⟩)) ∧ Below u.heap.size u w') := fun u hu => nil_impl _ ⟨dk, dt, cs, ks, dn, to⟩ u ⟨_, _, rfl, hc.on hu, ho.on hu⟩
  have HR0 : Sc.nilB ⟨kind, table, key, row, ⟨dk, dt, cs, ks, dn, to⟩⟩ = Sc.nilB ⟨kind, table, key, row, ⟨dk, dt, cs, ks, dn, to⟩⟩ := rfl
  conv at HR0 => rhs; unfold Sc.nilB
  generalize Sc.nilB ⟨kind, table, key, row, ⟨dk, dt, cs, ks, dn, to⟩⟩ = R at HR0 ⊢
  simp only at HR0
  generalize Dc.nilB ⟨dk, dt, cs, ks, dn, to⟩ = qn at HR0 HNV
  have HR : Hid (R = _) := HR0
  clear HR0 hx hk hr hc ho
  go_enter Try.func32, Try.ntmps32
  go_wp2_with (first | (go_at_call 60; refine (HNV.out _ (by repeat (first | with_reducible exact Below.refl _ _ | with_reducible assumption | with_reducible refine ch_alloc ?_ _ | with_reducible refine Below.drew ?_ | with_reducible refine below_draws _ ?_ | (with_reducible refine Below.setCell ?_ ?_ _; rotate_left; focus (first | with_reducible exact Nat.le_refl _ | (simp; done) | (simp; omega) | (simp at *; omega))) | with_reducible refine ch_trans ?_ (by with_reducible assumption)))).mono ?_; rintro e w3 ⟨rfl, b3⟩) | fail)
  all_goals
    go_ret
    exact ⟨by rw [HR.out]; simp [noneB, *], (by repeat (first | with_reducible exact Below.refl _ _ | with_reducible assumption | with_reducible refine ch_alloc ?_ _ | with_reducible refine Below.drew ?_ | with_reducible refine below_draws _ ?_ | (with_reducible refine Below.setCell ?_ ?_ _; rotate_left; focus (first | with_reducible exact Nat.le_refl _ | (simp; done) | (simp; omega) | (simp at *; omega))) | with_reducible refine ch_trans ?_ (by with_reducible assumption)))⟩

set_option maxRecDepth 100000 in
set_option maxHeartbeats 2000000 in
/-- spec.RecOk -/
theorem recOk_spec (x : Array Value) (t : Lc) (w : World) (hx : RecV w x t) (hf : t.fit) :
    Calls Try.prog 8 #[.agg x] w fun e w' => ∃ q : Bool, e = .returned (.bool q) ∧ (q = true ↔ t.right) ∧ Below w.heap.size w w' := by
  obtain ⟨qz, hqz⟩ := bool_of t.right
  suffices H : Calls Try.prog 8 #[.agg x] w fun e w' => e = .returned (.bool qz) ∧ Below w.heap.size w w' from H.mono fun e w' ⟨h1, h2⟩ => ⟨qz, h1, hqz, h2⟩
  obtain ⟨ka, kp, ra, rp, ca, cp, oa, op, rfl, _, hs⟩ := hx.lit
  obtain ⟨qs, hqs⟩ := bool_of t.st.right
  have HS : Hid (∀ u : World, Below w.heap.size w u → Calls Try.prog 29 #[.agg #[.int .i64 t.st.kind, .string t.st.table, .slice ka t.st.key.length kp, .slice ra t.st.row.length rp, .int .i64 t.st.ddl.kind, .string t.st.ddl.table, .slice ca t.st.ddl.cols.length cp, .slice oa t.st.ddl.keys.length op, .string t.st.ddl.name, .string t.st.ddl.to]] u fun e w' => e = .returned (.bool qs) ∧ Below u.heap.size u w') := fun u hu => (stmtOk_spec _ t.st u (hs.on hu) hf).mono fun e w' ⟨q, h1, h2, h3⟩ => ⟨by rw [h1, Bool.eq_iff_iff.2 (h2.trans hqs.symm)], h3⟩
  have HNV : Hid (∀ u : World, Below w.heap.size w u → Calls Try.prog 30 #[.agg #[.int .i64 t.st.kind, .string t.st.table, .slice ka t.st.key.length kp, .slice ra t.st.row.length rp, .int .i64 t.st.ddl.kind, .string t.st.ddl.table, .slice ca t.st.ddl.cols.length cp, .slice oa t.st.ddl.keys.length op, .string t.st.ddl.name, .string t.st.ddl.to]] u fun e w' => e = .returned (.bool t.st.nilB) ∧ Below u.heap.size u w') := fun u hu => noStmt_spec _ t.st u (hs.on hu)
  have HR : Hid (t.right ↔ (1 ≤ t.xid ∧ t.xid ≤ 1000000) ∧ ((t.kind = 2 ∧ qs = true) ∨ ((t.kind = 1 ∨ t.kind = 3 ∨ t.kind = 4) ∧ t.st.nilB = true))) := by
    show _ ↔ _
    rw [hqs]; rfl
  have HZ : Hid (qz = true ↔ (1 ≤ t.xid ∧ t.xid ≤ 1000000) ∧ ((t.kind = 2 ∧ qs = true) ∨ ((t.kind = 1 ∨ t.kind = 3 ∨ t.kind = 4) ∧ t.st.nilB = true))) := hqz.trans HR.out
  clear hs hf hx hqs hqz HR
  generalize t.st.nilB = qn at HNV HZ
  generalize t.kind = kind at *
  generalize t.xid = xid at *
  by_cases hx : 1 ≤ xid ∧ xid ≤ 1000000
  · obtain ⟨hx1, hx2⟩ := hx
    by_cases h2 : kind = 2
    · subst h2
      have HQ : qz = qs := by rw [Bool.eq_iff_iff, HZ.out]; simp [hx1, hx2]
      subst HQ
      go_enter Try.func8, Try.ntmps8
      go_wp2_with (first | (go_at_call 29; refine (HS.out _ (by repeat (first | with_reducible exact Below.refl _ _ | with_reducible assumption | with_reducible refine ch_alloc ?_ _ | with_reducible refine Below.drew ?_ | with_reducible refine below_draws _ ?_ | (with_reducible refine Below.setCell ?_ ?_ _; rotate_left; focus (first | with_reducible exact Nat.le_refl _ | (simp; done) | (simp; omega) | (simp at *; omega))) | with_reducible refine ch_trans ?_ (by with_reducible assumption)))).mono ?_; rintro e w3 ⟨rfl, b3⟩) | fail)
      go_ret
      exact ⟨rfl, (by repeat (first | with_reducible exact Below.refl _ _ | with_reducible assumption | with_reducible refine ch_alloc ?_ _ | with_reducible refine Below.drew ?_ | with_reducible refine below_draws _ ?_ | (with_reducible refine Below.setCell ?_ ?_ _; rotate_left; focus (first | with_reducible exact Nat.le_refl _ | (simp; done) | (simp; omega) | (simp at *; omega))) | with_reducible refine ch_trans ?_ (by with_reducible assumption)))⟩
    · by_cases hk : 1 ≤ kind ∧ kind ≤ 4
      · obtain ⟨hk1, hk2⟩ := hk
        have HQ : qz = qn := by rw [Bool.eq_iff_iff, HZ.out]; simp [hx1, hx2, h2]; omega
        subst HQ
        go_enter Try.func8, Try.ntmps8
        go_wp2_with (first | (go_at_call 30; refine (HNV.out _ (by repeat (first | with_reducible exact Below.refl _ _ | with_reducible assumption | with_reducible refine ch_alloc ?_ _ | with_reducible refine Below.drew ?_ | with_reducible refine below_draws _ ?_ | (with_reducible refine Below.setCell ?_ ?_ _; rotate_left; focus (first | with_reducible exact Nat.le_refl _ | (simp; done) | (simp; omega) | (simp at *; omega))) | with_reducible refine ch_trans ?_ (by with_reducible assumption)))).mono ?_; rintro e w3 ⟨rfl, b3⟩) | fail)
        go_ret
        exact ⟨rfl, (by repeat (first | with_reducible exact Below.refl _ _ | with_reducible assumption | with_reducible refine ch_alloc ?_ _ | with_reducible refine Below.drew ?_ | with_reducible refine below_draws _ ?_ | (with_reducible refine Below.setCell ?_ ?_ _; rotate_left; focus (first | with_reducible exact Nat.le_refl _ | (simp; done) | (simp; omega) | (simp at *; omega))) | with_reducible refine ch_trans ?_ (by with_reducible assumption)))⟩
      · have HQ : qz = false := by rw [← Bool.not_eq_true, HZ.out]; omega
        subst HQ
        go_enter Try.func8, Try.ntmps8
        go_wp2
        all_goals
          go_ret
          exact ⟨rfl, (by repeat (first | with_reducible exact Below.refl _ _ | with_reducible assumption | with_reducible refine ch_alloc ?_ _ | with_reducible refine Below.drew ?_ | with_reducible refine below_draws _ ?_ | (with_reducible refine Below.setCell ?_ ?_ _; rotate_left; focus (first | with_reducible exact Nat.le_refl _ | (simp; done) | (simp; omega) | (simp at *; omega))) | with_reducible refine ch_trans ?_ (by with_reducible assumption)))⟩
  · have HQ : qz = false := by rw [← Bool.not_eq_true, HZ.out]; exact fun h => hx h.1
    subst HQ
    go_enter Try.func8, Try.ntmps8
    go_wp2
    all_goals
      go_ret
      exact ⟨rfl, (by repeat (first | with_reducible exact Below.refl _ _ | with_reducible assumption | with_reducible refine ch_alloc ?_ _ | with_reducible refine Below.drew ?_ | with_reducible refine below_draws _ ?_ | (with_reducible refine Below.setCell ?_ ?_ _; rotate_left; focus (first | with_reducible exact Nat.le_refl _ | (simp; done) | (simp; omega) | (simp at *; omega))) | with_reducible refine ch_trans ?_ (by with_reducible assumption)))⟩

set_option maxRecDepth 100000 in
set_option maxHeartbeats 2000000 in
/-- impl.RecOk -/
theorem recOk_impl (x : Array Value) (t : Lc) (w : World) (hx : RecV w x t) (hf : t.fit) :
    Calls Try.prog 10 #[.agg x] w fun e w' => ∃ q : Bool, e = .returned (.bool q) ∧ (q = true ↔ t.right) ∧ Below w.heap.size w w' := by
  obtain ⟨qz, hqz⟩ := bool_of t.right
  suffices H : Calls Try.prog 10 #[.agg x] w fun e w' => e = .returned (.bool qz) ∧ Below w.heap.size w w' from H.mono fun e w' ⟨h1, h2⟩ => ⟨qz, h1, hqz, h2⟩
  obtain ⟨ka, kp, ra, rp, ca, cp, oa, op, rfl, _, hs⟩ := hx.lit
  obtain ⟨qs, hqs⟩ := bool_of t.st.right
  have HS : Hid (∀ u : World, Below w.heap.size w u → Calls Try.prog 33 #[.agg #[.int .i64 t.st.kind, .string t.st.table, .slice ka t.st.key.length kp, .slice ra t.st.row.length rp, .int .i64 t.st.ddl.kind, .string t.st.ddl.table, .slice ca t.st.ddl.cols.length cp, .slice oa t.st.ddl.keys.length op, .string t.st.ddl.name, .string t.st.ddl.to]] u fun e w' => e = .returned (.bool qs) ∧ Below u.heap.size u w') := fun u hu => (stmtOk_impl _ t.st u (hs.on hu) hf).mono fun e w' ⟨q, h1, h2, h3⟩ => ⟨by rw [h1, Bool.eq_iff_iff.2 (h2.trans hqs.symm)], h3⟩
  have HNV : Hid (∀ u : World, Below w.heap.size w u → Calls Try.prog 32 #[.agg #[.int .i64 t.st.kind, .string t.st.table, .slice ka t.st.key.length kp, .slice ra t.st.row.length rp, .int .i64 t.st.ddl.kind, .string t.st.ddl.table, .slice ca t.st.ddl.cols.length cp, .slice oa t.st.ddl.keys.length op, .string t.st.ddl.name, .string t.st.ddl.to]] u fun e w' => e = .returned (.bool t.st.nilB) ∧ Below u.heap.size u w') := fun u hu => noStmt_impl _ t.st u (hs.on hu)
  have HR : Hid (t.right ↔ (1 ≤ t.xid ∧ t.xid ≤ 1000000) ∧ ((t.kind = 2 ∧ qs = true) ∨ ((t.kind = 1 ∨ t.kind = 3 ∨ t.kind = 4) ∧ t.st.nilB = true))) := by
    show _ ↔ _
    rw [hqs]; rfl
  have HZ : Hid (qz = true ↔ (1 ≤ t.xid ∧ t.xid ≤ 1000000) ∧ ((t.kind = 2 ∧ qs = true) ∨ ((t.kind = 1 ∨ t.kind = 3 ∨ t.kind = 4) ∧ t.st.nilB = true))) := hqz.trans HR.out
  clear hs hf hx hqs hqz HR
  generalize t.st.nilB = qn at HNV HZ
  generalize t.kind = kind at *
  generalize t.xid = xid at *
  by_cases hx : 1 ≤ xid ∧ xid ≤ 1000000
  · obtain ⟨hx1, hx2⟩ := hx
    by_cases h2 : kind = 2
    · subst h2
      have HQ : qz = qs := by rw [Bool.eq_iff_iff, HZ.out]; simp [hx1, hx2]
      subst HQ
      go_enter Try.func10, Try.ntmps10
      go_wp2_with (first | (go_at_call 33; refine (HS.out _ (by repeat (first | with_reducible exact Below.refl _ _ | with_reducible assumption | with_reducible refine ch_alloc ?_ _ | with_reducible refine Below.drew ?_ | with_reducible refine below_draws _ ?_ | (with_reducible refine Below.setCell ?_ ?_ _; rotate_left; focus (first | with_reducible exact Nat.le_refl _ | (simp; done) | (simp; omega) | (simp at *; omega))) | with_reducible refine ch_trans ?_ (by with_reducible assumption)))).mono ?_; rintro e w3 ⟨rfl, b3⟩) | fail)
      go_ret
      exact ⟨rfl, (by repeat (first | with_reducible exact Below.refl _ _ | with_reducible assumption | with_reducible refine ch_alloc ?_ _ | with_reducible refine Below.drew ?_ | with_reducible refine below_draws _ ?_ | (with_reducible refine Below.setCell ?_ ?_ _; rotate_left; focus (first | with_reducible exact Nat.le_refl _ | (simp; done) | (simp; omega) | (simp at *; omega))) | with_reducible refine ch_trans ?_ (by with_reducible assumption)))⟩
    · by_cases hk : kind = 1 ∨ kind = 3 ∨ kind = 4
      · have HQ : qz = qn := by rw [Bool.eq_iff_iff, HZ.out]; simp [hx1, hx2, h2, hk]
        subst HQ
        rcases hk with rfl | rfl | rfl
        all_goals
          go_enter Try.func10, Try.ntmps10
          go_wp2_with (first | (go_at_call 32; refine (HNV.out _ (by repeat (first | with_reducible exact Below.refl _ _ | with_reducible assumption | with_reducible refine ch_alloc ?_ _ | with_reducible refine Below.drew ?_ | with_reducible refine below_draws _ ?_ | (with_reducible refine Below.setCell ?_ ?_ _; rotate_left; focus (first | with_reducible exact Nat.le_refl _ | (simp; done) | (simp; omega) | (simp at *; omega))) | with_reducible refine ch_trans ?_ (by with_reducible assumption)))).mono ?_; rintro e w3 ⟨rfl, b3⟩) | fail)
          go_ret
          exact ⟨rfl, (by repeat (first | with_reducible exact Below.refl _ _ | with_reducible assumption | with_reducible refine ch_alloc ?_ _ | with_reducible refine Below.drew ?_ | with_reducible refine below_draws _ ?_ | (with_reducible refine Below.setCell ?_ ?_ _; rotate_left; focus (first | with_reducible exact Nat.le_refl _ | (simp; done) | (simp; omega) | (simp at *; omega))) | with_reducible refine ch_trans ?_ (by with_reducible assumption)))⟩
      · have HQ : qz = false := by rw [← Bool.not_eq_true, HZ.out]; simp [h2, hk]
        subst HQ
        have j1 : (kind == 1) = false := by simp; omega
        have j2 : (kind == 2) = false := by simp; omega
        have j3 : (kind == 3) = false := by simp; omega
        have j4 : (kind == 4) = false := by simp; omega
        clear hk h2
        go_enter Try.func10, Try.ntmps10
        go_wp2
        all_goals
          go_ret
          exact ⟨rfl, (by repeat (first | with_reducible exact Below.refl _ _ | with_reducible assumption | with_reducible refine ch_alloc ?_ _ | with_reducible refine Below.drew ?_ | with_reducible refine below_draws _ ?_ | (with_reducible refine Below.setCell ?_ ?_ _; rotate_left; focus (first | with_reducible exact Nat.le_refl _ | (simp; done) | (simp; omega) | (simp at *; omega))) | with_reducible refine ch_trans ?_ (by with_reducible assumption)))⟩
  · have HQ : qz = false := by rw [← Bool.not_eq_true, HZ.out]; exact fun h => hx h.1
    subst HQ
    go_enter Try.func10, Try.ntmps10
    go_wp2
    all_goals
      go_ret
      exact ⟨rfl, (by repeat (first | with_reducible exact Below.refl _ _ | with_reducible assumption | with_reducible refine ch_alloc ?_ _ | with_reducible refine Below.drew ?_ | with_reducible refine below_draws _ ?_ | (with_reducible refine Below.setCell ?_ ?_ _; rotate_left; focus (first | with_reducible exact Nat.le_refl _ | (simp; done) | (simp; omega) | (simp at *; omega))) | with_reducible refine ch_trans ?_ (by with_reducible assumption)))⟩
end Go.Proofs.Ytmcjchaokpcomaa
