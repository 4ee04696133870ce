/- Whether a change is right: the given DdlOk. Whether a change is right: the landed DdlOk. -/
import Derived.Test.YtiijahoheajppaaGreatAl
import Derived.Test.YtiijahoheajppaaGreatTbOkS
import Derived.Test.YtiijahoheajppaaGreatCt
namespace Go.Proofs.YtiijahoheajppaaGreat
open Go.ChangeShapes Go.WideShapes Go.ChangeAt Go.RowKit

/-- A text is empty. -/
def noneB (s : ByteArray) : Bool := s.toList.isEmpty
/-- A change is right. -/
def Dc.right (d : Dc) : Prop := wordB d.table = true ∧
  ((d.kind = 1 ∧ noneB d.name = true ∧ noneB d.to = true ∧ Tc.right ⟨d.table, d.cols, d.keys⟩) ∨
  (d.kind = 2 ∧ d.cols.length = 0 ∧ d.keys.length = 0 ∧ noneB d.name = true ∧ noneB d.to = true) ∨
  (d.kind = 3 ∧ d.cols.length = 1 ∧ (∀ (h : 0 < d.cols.length), d.cols[0].ok = true ∧ (d.cols[0].has = true ∨ d.cols[0].nt = false)) ∧ d.keys.length = 0 ∧ noneB d.name = true ∧ noneB d.to = true) ∨
  (d.kind = 4 ∧ d.cols.length = 0 ∧ d.keys.length = 0 ∧ wordB d.name = true ∧ noneB d.to = true) ∨
  (d.kind = 5 ∧ d.cols.length = 0 ∧ d.keys.length = 0 ∧ wordB d.name = true ∧ wordB d.to = true))

set_option maxRecDepth 100000 in
set_option maxHeartbeats 1000000 in
/-- spec.DdlOk, a drop -/
theorem ddlOk_spec_2 (x : Array Value) (t : Dc) (w : World) (hx : DdlV w x t) (hf : t.fit) (hw : wordB t.table = true) (hk : t.kind = 2) :
    Calls Tryz.prog 101 #[.agg x] w fun e w' => ∃ q : Bool, e = .returned (.bool q) ∧ (q = true ↔ t.right) ∧ Below w.heap.size w w' := by
  obtain ⟨a, p, o, q, rfl, hx, hc, hkk⟩ := hx.lit
  have hcap : t.cols.length ≤ 9223372036854775807 ∧ t.keys.length ≤ 9223372036854775807 := by
    obtain ⟨_, _, e, h1, h2, _⟩ := hc
    obtain ⟨_, _, e', h1', h2', _⟩ := hkk
    unfold maxLen at h2 h2'
    omega
  obtain ⟨hl1, hl2⟩ := hcap
  have HW : Hid (∀ (s : ByteArray) (w : World), s.size ≤ maxLen → Calls Tryz.prog 98 #[.string s] w fun e w' => e = .returned (.bool (wordB s)) ∧ w' = w) := fun s w h => word_spec s w h
  have HC : Hid (ColsV w (.slice a t.cols.length p) t.cols) := hc
  have HK : Hid (StrsV w (.slice o t.keys.length q) t.keys) := hkk
  have HL := Loc.new w #[.int .i64 t.kind, .string t.table, .slice a t.cols.length p, .slice o t.keys.length q, .string t.name, .string t.to] 46
  clear hx hc hkk
  obtain ⟨kind, table, cs, ks, name, to⟩ := t
  have HR0 : Dc.right ⟨kind, table, cs, ks, name, to⟩ ↔ Dc.right ⟨kind, table, cs, ks, name, to⟩ := Iff.rfl
  conv at HR0 => rhs; unfold Dc.right
  generalize Dc.right ⟨kind, table, cs, ks, name, to⟩ = R at HR0 ⊢
  simp only at HL HC HK HR0 hl1 hl2 hw hk
  rw [hw] at HR0
  obtain ⟨hf1, hf2, hf3, hf4, hf5⟩ := hf
  simp only at hf1 hf2 hf3 hf4 hf5
  have HF2 : Hid (∀ c ∈ cs, c.name.size ≤ maxLen ∧ c.ds.size ≤ maxLen) := hf2
  have HF3 : Hid (∀ s ∈ ks, s.size ≤ maxLen) := hf3
  have HF1 : Hid (table.size ≤ maxLen) := hf1
  have HF4 : Hid (name.size ≤ maxLen) := hf4
  have HF5 : Hid (to.size ≤ maxLen) := hf5
  clear hf1 hf2 hf3 hf4 hf5
  subst hk
  have HR : Hid (R ↔ (cs.length = 0 ∧ ks.length = 0 ∧ noneB name = true ∧ noneB to = true)) := HR0.trans (by simp)
  clear HR0
  go_enter Tryz.func101, Tryz.ntmps101
  go_wp2_with (go_at_call 98; refine (HW.out _ _ (by first | exact HF1.out | exact HF4.out | exact HF5.out)).mono ?_; rintro e w' ⟨rfl, hww⟩; subst w')
  all_goals
    go_ret
    refine ⟨_, rfl, ?_, (by repeat (first | with_reducible exact Below.refl _ _ | with_reducible assumption | with_reducible refine ch_alloc ?_ _ | with_reducible refine Below.drew ?_ | with_reducible refine below_draws _ ?_ | (with_reducible refine Below.setCell ?_ ?_ _; rotate_left; focus (first | with_reducible exact Nat.le_refl _ | (simp; done) | (simp; omega) | (simp at *; omega))) | with_reducible refine ch_trans ?_ (by with_reducible assumption)))⟩
    rw [HR.out]
    simp [noneB, *]

set_option maxRecDepth 100000 in
set_option maxHeartbeats 1000000 in
/-- spec.DdlOk, a column out -/
theorem ddlOk_spec_4 (x : Array Value) (t : Dc) (w : World) (hx : DdlV w x t) (hf : t.fit) (hw : wordB t.table = true) (hk : t.kind = 4) :
    Calls Tryz.prog 101 #[.agg x] w fun e w' => ∃ q : Bool, e = .returned (.bool q) ∧ (q = true ↔ t.right) ∧ Below w.heap.size w w' := by
  obtain ⟨a, p, o, q, rfl, hx, hc, hkk⟩ := hx.lit
  have hcap : t.cols.length ≤ 9223372036854775807 ∧ t.keys.length ≤ 9223372036854775807 := by
    obtain ⟨_, _, e, h1, h2, _⟩ := hc
    obtain ⟨_, _, e', h1', h2', _⟩ := hkk
    unfold maxLen at h2 h2'
    omega
  obtain ⟨hl1, hl2⟩ := hcap
  have HW : Hid (∀ (s : ByteArray) (w : World), s.size ≤ maxLen → Calls Tryz.prog 98 #[.string s] w fun e w' => e = .returned (.bool (wordB s)) ∧ w' = w) := fun s w h => word_spec s w h
  have HC : Hid (ColsV w (.slice a t.cols.length p) t.cols) := hc
  have HK : Hid (StrsV w (.slice o t.keys.length q) t.keys) := hkk
  have HL := Loc.new w #[.int .i64 t.kind, .string t.table, .slice a t.cols.length p, .slice o t.keys.length q, .string t.name, .string t.to] 46
  clear hx hc hkk
  obtain ⟨kind, table, cs, ks, name, to⟩ := t
  have HR0 : Dc.right ⟨kind, table, cs, ks, name, to⟩ ↔ Dc.right ⟨kind, table, cs, ks, name, to⟩ := Iff.rfl
  conv at HR0 => rhs; unfold Dc.right
  generalize Dc.right ⟨kind, table, cs, ks, name, to⟩ = R at HR0 ⊢
  simp only at HL HC HK HR0 hl1 hl2 hw hk
  rw [hw] at HR0
  obtain ⟨hf1, hf2, hf3, hf4, hf5⟩ := hf
  simp only at hf1 hf2 hf3 hf4 hf5
  have HF2 : Hid (∀ c ∈ cs, c.name.size ≤ maxLen ∧ c.ds.size ≤ maxLen) := hf2
  have HF3 : Hid (∀ s ∈ ks, s.size ≤ maxLen) := hf3
  have HF1 : Hid (table.size ≤ maxLen) := hf1
  have HF4 : Hid (name.size ≤ maxLen) := hf4
  have HF5 : Hid (to.size ≤ maxLen) := hf5
  clear hf1 hf2 hf3 hf4 hf5
  subst hk
  have HR : Hid (R ↔ (cs.length = 0 ∧ ks.length = 0 ∧ wordB name = true ∧ noneB to = true)) := HR0.trans (by simp)
  clear HR0
  cases hn : wordB name
  all_goals
    go_enter Tryz.func101, Tryz.ntmps101
    go_wp2_with (go_at_call 98; refine (HW.out _ _ (by first | exact HF1.out | exact HF4.out | exact HF5.out)).mono ?_; rintro e w' ⟨rfl, hww⟩; subst w')
    all_goals
      go_ret
      refine ⟨_, rfl, ?_, (by repeat (first | with_reducible exact Below.refl _ _ | with_reducible assumption | with_reducible refine ch_alloc ?_ _ | with_reducible refine Below.drew ?_ | with_reducible refine below_draws _ ?_ | (with_reducible refine Below.setCell ?_ ?_ _; rotate_left; focus (first | with_reducible exact Nat.le_refl _ | (simp; done) | (simp; omega) | (simp at *; omega))) | with_reducible refine ch_trans ?_ (by with_reducible assumption)))⟩
      rw [HR.out]
      simp [noneB, *]

set_option maxRecDepth 100000 in
set_option maxHeartbeats 1000000 in
/-- spec.DdlOk, a name -/
theorem ddlOk_spec_5 (x : Array Value) (t : Dc) (w : World) (hx : DdlV w x t) (hf : t.fit) (hw : wordB t.table = true) (hk : t.kind = 5) :
    Calls Tryz.prog 101 #[.agg x] w fun e w' => ∃ q : Bool, e = .returned (.bool q) ∧ (q = true ↔ t.right) ∧ Below w.heap.size w w' := by
  obtain ⟨a, p, o, q, rfl, hx, hc, hkk⟩ := hx.lit
  have hcap : t.cols.length ≤ 9223372036854775807 ∧ t.keys.length ≤ 9223372036854775807 := by
    obtain ⟨_, _, e, h1, h2, _⟩ := hc
    obtain ⟨_, _, e', h1', h2', _⟩ := hkk
    unfold maxLen at h2 h2'
    omega
  obtain ⟨hl1, hl2⟩ := hcap
  have HW : Hid (∀ (s : ByteArray) (w : World), s.size ≤ maxLen → Calls Tryz.prog 98 #[.string s] w fun e w' => e = .returned (.bool (wordB s)) ∧ w' = w) := fun s w h => word_spec s w h
  have HC : Hid (ColsV w (.slice a t.cols.length p) t.cols) := hc
  have HK : Hid (StrsV w (.slice o t.keys.length q) t.keys) := hkk
  have HL := Loc.new w #[.int .i64 t.kind, .string t.table, .slice a t.cols.length p, .slice o t.keys.length q, .string t.name, .string t.to] 46
  clear hx hc hkk
  obtain ⟨kind, table, cs, ks, name, to⟩ := t
  have HR0 : Dc.right ⟨kind, table, cs, ks, name, to⟩ ↔ Dc.right ⟨kind, table, cs, ks, name, to⟩ := Iff.rfl
  conv at HR0 => rhs; unfold Dc.right
  generalize Dc.right ⟨kind, table, cs, ks, name, to⟩ = R at HR0 ⊢
  simp only at HL HC HK HR0 hl1 hl2 hw hk
  rw [hw] at HR0
  obtain ⟨hf1, hf2, hf3, hf4, hf5⟩ := hf
  simp only at hf1 hf2 hf3 hf4 hf5
  have HF2 : Hid (∀ c ∈ cs, c.name.size ≤ maxLen ∧ c.ds.size ≤ maxLen) := hf2
  have HF3 : Hid (∀ s ∈ ks, s.size ≤ maxLen) := hf3
  have HF1 : Hid (table.size ≤ maxLen) := hf1
  have HF4 : Hid (name.size ≤ maxLen) := hf4
  have HF5 : Hid (to.size ≤ maxLen) := hf5
  clear hf1 hf2 hf3 hf4 hf5
  subst hk
  have HR : Hid (R ↔ (cs.length = 0 ∧ ks.length = 0 ∧ wordB name = true ∧ wordB to = true)) := HR0.trans (by simp)
  clear HR0
  cases hn : wordB name <;> cases ht : wordB to
  all_goals
    go_enter Tryz.func101, Tryz.ntmps101
    go_wp2_with (go_at_call 98; refine (HW.out _ _ (by first | exact HF1.out | exact HF4.out | exact HF5.out)).mono ?_; rintro e w' ⟨rfl, hww⟩; subst w')
    all_goals
      go_ret
      refine ⟨_, rfl, ?_, (by repeat (first | with_reducible exact Below.refl _ _ | with_reducible assumption | with_reducible refine ch_alloc ?_ _ | with_reducible refine Below.drew ?_ | with_reducible refine below_draws _ ?_ | (with_reducible refine Below.setCell ?_ ?_ _; rotate_left; focus (first | with_reducible exact Nat.le_refl _ | (simp; done) | (simp; omega) | (simp at *; omega))) | with_reducible refine ch_trans ?_ (by with_reducible assumption)))⟩
      rw [HR.out]
      simp [*]

set_option maxRecDepth 100000 in
set_option maxHeartbeats 1000000 in
/-- spec.DdlOk, a create -/
theorem ddlOk_spec_1 (x : Array Value) (t : Dc) (w : World) (hx : DdlV w x t) (hf : t.fit) (hw : wordB t.table = true) (hk : t.kind = 1) :
    Calls Tryz.prog 101 #[.agg x] w fun e w' => ∃ q : Bool, e = .returned (.bool q) ∧ (q = true ↔ t.right) ∧ Below w.heap.size w w' := by
  obtain ⟨a, p, o, q, rfl, hx, hc, hkk⟩ := hx.lit
  have hcap : t.cols.length ≤ 9223372036854775807 ∧ t.keys.length ≤ 9223372036854775807 := by
    obtain ⟨_, _, e, h1, h2, _⟩ := hc
    obtain ⟨_, _, e', h1', h2', _⟩ := hkk
    unfold maxLen at h2 h2'
    omega
  obtain ⟨hl1, hl2⟩ := hcap
  have HW : Hid (∀ (s : ByteArray) (w : World), s.size ≤ maxLen → Calls Tryz.prog 98 #[.string s] w fun e w' => e = .returned (.bool (wordB s)) ∧ w' = w) := fun s w h => word_spec s w h
  have HC : Hid (ColsV w (.slice a t.cols.length p) t.cols) := hc
  have HK : Hid (StrsV w (.slice o t.keys.length q) t.keys) := hkk
  have HL := Loc.new w #[.int .i64 t.kind, .string t.table, .slice a t.cols.length p, .slice o t.keys.length q, .string t.name, .string t.to] 46
  clear hx hc hkk
  obtain ⟨kind, table, cs, ks, name, to⟩ := t
  have HR0 : Dc.right ⟨kind, table, cs, ks, name, to⟩ ↔ Dc.right ⟨kind, table, cs, ks, name, to⟩ := Iff.rfl
  conv at HR0 => rhs; unfold Dc.right
  generalize Dc.right ⟨kind, table, cs, ks, name, to⟩ = R at HR0 ⊢
  simp only at HL HC HK HR0 hl1 hl2 hw hk
  rw [hw] at HR0
  obtain ⟨hf1, hf2, hf3, hf4, hf5⟩ := hf
  simp only at hf1 hf2 hf3 hf4 hf5
  have HF2 : Hid (∀ c ∈ cs, c.name.size ≤ maxLen ∧ c.ds.size ≤ maxLen) := hf2
  have HF3 : Hid (∀ s ∈ ks, s.size ≤ maxLen) := hf3
  have HF1 : Hid (table.size ≤ maxLen) := hf1
  have HF4 : Hid (name.size ≤ maxLen) := hf4
  have HF5 : Hid (to.size ≤ maxLen) := hf5
  clear hf1 hf2 hf3 hf4 hf5
  subst hk
  have HR : Hid (R ↔ (noneB name = true ∧ noneB to = true ∧ Tc.right ⟨table, cs, ks⟩)) := HR0.trans (by simp)
  clear HR0
  have HT : Hid (∀ u : World, ColsV u (.slice a cs.length p) cs → StrsV u (.slice o ks.length q) ks → Calls Tryz.prog 128 #[.agg #[.string table, .slice a cs.length p, .slice o ks.length q]] u fun e w' => ∃ q : Bool, e = .returned (.bool q) ∧ (q = true ↔ Tc.right ⟨table, cs, ks⟩) ∧ Below u.heap.size u w') := fun u h1 h2 => tableOk_spec _ ⟨table, cs, ks⟩ u ⟨_, _, rfl, h1, h2⟩ ⟨HF1.out, HF2.out, HF3.out⟩
  generalize Tc.right ⟨table, cs, ks⟩ = Z at HT HR
  cases ec : ((cs.length : Int) == 0) <;> cases ek : ((ks.length : Int) == 0)
  all_goals
    by_cases hn : name.toList = []
    · by_cases ht : to.toList = []
      · have HR' : Hid (R ↔ Z) := HR.out.trans (by simp [noneB, hn, ht])
        clear HR
        go_enter Tryz.func101, Tryz.ntmps101
        go_wp2_with (go_at_call 98; refine (HW.out _ _ (by first | exact HF1.out | exact HF4.out | exact HF5.out)).mono ?_; rintro e w' ⟨rfl, hww⟩; subst w')
        refine (HT.out _ (HC.out.on (by repeat (first | with_reducible exact Below.refl _ _ | with_reducible assumption | with_reducible refine ch_alloc ?_ _ | with_reducible refine Below.drew ?_ | with_reducible refine below_draws _ ?_ | (with_reducible refine Below.setCell ?_ ?_ _; rotate_left; focus (first | with_reducible exact Nat.le_refl _ | (simp; done) | (simp; omega) | (simp at *; omega))) | with_reducible refine ch_trans ?_ (by with_reducible assumption)))) (HK.out.on (by repeat (first | with_reducible exact Below.refl _ _ | with_reducible assumption | with_reducible refine ch_alloc ?_ _ | with_reducible refine Below.drew ?_ | with_reducible refine below_draws _ ?_ | (with_reducible refine Below.setCell ?_ ?_ _; rotate_left; focus (first | with_reducible exact Nat.le_refl _ | (simp; done) | (simp; omega) | (simp at *; omega))) | with_reducible refine ch_trans ?_ (by with_reducible assumption))))).mono ?_
        rintro e w2 ⟨qq, rfl, hqq, b2⟩
        have HQQ : Hid (qq = true ↔ Z) := hqq
        clear hqq
        go_wp2
        go_ret
        exact ⟨_, rfl, HQQ.out.trans HR'.out.symm, (by repeat (first | with_reducible exact Below.refl _ _ | with_reducible assumption | with_reducible refine ch_alloc ?_ _ | with_reducible refine Below.drew ?_ | with_reducible refine below_draws _ ?_ | (with_reducible refine Below.setCell ?_ ?_ _; rotate_left; focus (first | with_reducible exact Nat.le_refl _ | (simp; done) | (simp; omega) | (simp at *; omega))) | with_reducible refine ch_trans ?_ (by with_reducible assumption)))⟩
      · have HR' : Hid (¬ R) := fun h => by have := HR.out.1 h; simp [noneB, ht] at this
        clear HR
        go_enter Tryz.func101, Tryz.ntmps101
        go_wp2_with (go_at_call 98; refine (HW.out _ _ (by first | exact HF1.out | exact HF4.out | exact HF5.out)).mono ?_; rintro e w' ⟨rfl, hww⟩; subst w')
        go_ret
        exact ⟨_, rfl, ⟨fun h => by simp at h, fun h => absurd h HR'.out⟩, (by repeat (first | with_reducible exact Below.refl _ _ | with_reducible assumption | with_reducible refine ch_alloc ?_ _ | with_reducible refine Below.drew ?_ | with_reducible refine below_draws _ ?_ | (with_reducible refine Below.setCell ?_ ?_ _; rotate_left; focus (first | with_reducible exact Nat.le_refl _ | (simp; done) | (simp; omega) | (simp at *; omega))) | with_reducible refine ch_trans ?_ (by with_reducible assumption)))⟩
    · have HR' : Hid (¬ R) := fun h => by have := HR.out.1 h; simp [noneB, hn] at this
      clear HR
      go_enter Tryz.func101, Tryz.ntmps101
      go_wp2_with (go_at_call 98; refine (HW.out _ _ (by first | exact HF1.out | exact HF4.out | exact HF5.out)).mono ?_; rintro e w' ⟨rfl, hww⟩; subst w')
      go_ret
      exact ⟨_, rfl, ⟨fun h => by simp at h, fun h => absurd h HR'.out⟩, (by repeat (first | with_reducible exact Below.refl _ _ | with_reducible assumption | with_reducible refine ch_alloc ?_ _ | with_reducible refine Below.drew ?_ | with_reducible refine below_draws _ ?_ | (with_reducible refine Below.setCell ?_ ?_ _; rotate_left; focus (first | with_reducible exact Nat.le_refl _ | (simp; done) | (simp; omega) | (simp at *; omega))) | with_reducible refine ch_trans ?_ (by with_reducible assumption)))⟩

set_option maxRecDepth 100000 in
set_option maxHeartbeats 1000000 in
/-- spec.DdlOk, another kind -/
theorem ddlOk_spec_0 (x : Array Value) (t : Dc) (w : World) (hx : DdlV w x t) (hf : t.fit) (hw : wordB t.table = true) (hk : t.kind ≠ 1 ∧ t.kind ≠ 2 ∧ t.kind ≠ 3 ∧ t.kind ≠ 4 ∧ t.kind ≠ 5) :
    Calls Tryz.prog 101 #[.agg x] w fun e w' => ∃ q : Bool, e = .returned (.bool q) ∧ (q = true ↔ t.right) ∧ Below w.heap.size w w' := by
  obtain ⟨a, p, o, q, rfl, hx, hc, hkk⟩ := hx.lit
  have hcap : t.cols.length ≤ 9223372036854775807 ∧ t.keys.length ≤ 9223372036854775807 := by
    obtain ⟨_, _, e, h1, h2, _⟩ := hc
    obtain ⟨_, _, e', h1', h2', _⟩ := hkk
    unfold maxLen at h2 h2'
    omega
  obtain ⟨hl1, hl2⟩ := hcap
  have HW : Hid (∀ (s : ByteArray) (w : World), s.size ≤ maxLen → Calls Tryz.prog 98 #[.string s] w fun e w' => e = .returned (.bool (wordB s)) ∧ w' = w) := fun s w h => word_spec s w h
  have HC : Hid (ColsV w (.slice a t.cols.length p) t.cols) := hc
  have HK : Hid (StrsV w (.slice o t.keys.length q) t.keys) := hkk
  have HL := Loc.new w #[.int .i64 t.kind, .string t.table, .slice a t.cols.length p, .slice o t.keys.length q, .string t.name, .string t.to] 46
  clear hx hc hkk
  obtain ⟨kind, table, cs, ks, name, to⟩ := t
  have HR0 : Dc.right ⟨kind, table, cs, ks, name, to⟩ ↔ Dc.right ⟨kind, table, cs, ks, name, to⟩ := Iff.rfl
  conv at HR0 => rhs; unfold Dc.right
  generalize Dc.right ⟨kind, table, cs, ks, name, to⟩ = R at HR0 ⊢
  simp only at HL HC HK HR0 hl1 hl2 hw hk
  rw [hw] at HR0
  obtain ⟨hf1, hf2, hf3, hf4, hf5⟩ := hf
  simp only at hf1 hf2 hf3 hf4 hf5
  have HF2 : Hid (∀ c ∈ cs, c.name.size ≤ maxLen ∧ c.ds.size ≤ maxLen) := hf2
  have HF3 : Hid (∀ s ∈ ks, s.size ≤ maxLen) := hf3
  have HF1 : Hid (table.size ≤ maxLen) := hf1
  have HF4 : Hid (name.size ≤ maxLen) := hf4
  have HF5 : Hid (to.size ≤ maxLen) := hf5
  clear hf1 hf2 hf3 hf4 hf5
  obtain ⟨k1, k2, k3, k4, k5⟩ := hk
  have HR : Hid (¬ R) := fun h => by have := HR0.1 h; simp [k1, k2, k3, k4, k5] at this
  clear HR0
  have e1 : (kind == 1) = false := by simp [k1]
  have e2 : (kind == 2) = false := by simp [k2]
  have e3 : (kind == 3) = false := by simp [k3]
  have e4 : (kind == 4) = false := by simp [k4]
  have e5 : (kind == 5) = false := by simp [k5]
  clear k1 k2 k3 k4 k5
  go_enter Tryz.func101, Tryz.ntmps101
  go_wp2_with (go_at_call 98; refine (HW.out _ _ (by first | exact HF1.out | exact HF4.out | exact HF5.out)).mono ?_; rintro e w' ⟨rfl, hww⟩; subst w')
  all_goals
    go_ret
    exact ⟨_, rfl, ⟨fun h => by simp at h, fun h => absurd h HR.out⟩, (by repeat (first | with_reducible exact Below.refl _ _ | with_reducible assumption | with_reducible refine ch_alloc ?_ _ | with_reducible refine Below.drew ?_ | with_reducible refine below_draws _ ?_ | (with_reducible refine Below.setCell ?_ ?_ _; rotate_left; focus (first | with_reducible exact Nat.le_refl _ | (simp; done) | (simp; omega) | (simp at *; omega))) | with_reducible refine ch_trans ?_ (by with_reducible assumption)))⟩

set_option maxRecDepth 100000 in
set_option maxHeartbeats 1000000 in
/-- spec.DdlOk, an add -/
theorem ddlOk_spec_3 (x : Array Value) (t : Dc) (w : World) (hx : DdlV w x t) (hf : t.fit) (hw : wordB t.table = true) (hk : t.kind = 3) :
    Calls Tryz.prog 101 #[.agg x] w fun e w' => ∃ q : Bool, e = .returned (.bool q) ∧ (q = true ↔ t.right) ∧ Below w.heap.size w w' := by
  obtain ⟨a, p, o, q, rfl, hx, hc, hkk⟩ := hx.lit
  have hcap : t.cols.length ≤ 9223372036854775807 ∧ t.keys.length ≤ 9223372036854775807 := by
    obtain ⟨_, _, e, h1, h2, _⟩ := hc
    obtain ⟨_, _, e', h1', h2', _⟩ := hkk
    unfold maxLen at h2 h2'
    omega
  obtain ⟨hl1, hl2⟩ := hcap
  have HW : Hid (∀ (s : ByteArray) (w : World), s.size ≤ maxLen → Calls Tryz.prog 98 #[.string s] w fun e w' => e = .returned (.bool (wordB s)) ∧ w' = w) := fun s w h => word_spec s w h
  have HC : Hid (ColsV w (.slice a t.cols.length p) t.cols) := hc
  have HK : Hid (StrsV w (.slice o t.keys.length q) t.keys) := hkk
  have HL := Loc.new w #[.int .i64 t.kind, .string t.table, .slice a t.cols.length p, .slice o t.keys.length q, .string t.name, .string t.to] 46
  clear hx hc hkk
  obtain ⟨kind, table, cs, ks, name, to⟩ := t
  have HR0 : Dc.right ⟨kind, table, cs, ks, name, to⟩ ↔ Dc.right ⟨kind, table, cs, ks, name, to⟩ := Iff.rfl
  conv at HR0 => rhs; unfold Dc.right
  generalize Dc.right ⟨kind, table, cs, ks, name, to⟩ = R at HR0 ⊢
  simp only at HL HC HK HR0 hl1 hl2 hw hk
  rw [hw] at HR0
  obtain ⟨hf1, hf2, hf3, hf4, hf5⟩ := hf
  simp only at hf1 hf2 hf3 hf4 hf5
  have HF2 : Hid (∀ c ∈ cs, c.name.size ≤ maxLen ∧ c.ds.size ≤ maxLen) := hf2
  have HF3 : Hid (∀ s ∈ ks, s.size ≤ maxLen) := hf3
  have HF1 : Hid (table.size ≤ maxLen) := hf1
  have HF4 : Hid (name.size ≤ maxLen) := hf4
  have HF5 : Hid (to.size ≤ maxLen) := hf5
  clear hf1 hf2 hf3 hf4 hf5
  subst hk
  have HR : Hid (R ↔ (cs.length = 1 ∧ (∀ (h : 0 < cs.length), cs[0].ok = true ∧ (cs[0].has = true ∨ cs[0].nt = false)) ∧ ks.length = 0 ∧ noneB name = true ∧ noneB to = true)) := HR0.trans (by simp)
  clear HR0
  by_cases hc1 : cs.length = 1
  · obtain ⟨c, rfl⟩ : ∃ c, cs = [c] := List.length_eq_one_iff.1 hc1
    obtain ⟨b, off, rfl, c0, c1, c2, c3, c4, c5, c6⟩ : ∃ b off, a = some ⟨b, off, none⟩ ∧ _ := by
      obtain ⟨a', cap', e, _, _, hr⟩ := HC.out
      cases e
      exact hr.cols 0 (by simp)
    simp only [Nat.zero_mul, Nat.add_zero, List.getElem_cons_zero] at c0 c1 c2 c3 c4 c5 c6
    have HS : Hid (∀ w : World, Calls Tryz.prog 129 #[c.v] w fun e w' => e = .returned (.bool c.ok) ∧ Below w.heap.size w w') := fun w => colOk_spec c w (HF2.out _ (by simp)).1
    have HR' : Hid (R ↔ (c.ok = true ∧ (c.has = true ∨ c.nt = false) ∧ ks.length = 0 ∧ noneB name = true ∧ noneB to = true)) := HR.out.trans (by simp [and_assoc])
    clear HR hc1
    simp only [List.length_cons, List.length_nil, Nat.zero_add] at HL HC
    replace c0 := cell_on c0 (ch_alloc (Below.refl w.heap.size w) (.cells #[.int .i64 3, .string table, .slice (some ⟨b, off, none⟩) 1 p, .slice o ks.length q, .string name, .string to] 46))
    replace c1 := cell_on c1 (ch_alloc (Below.refl w.heap.size w) (.cells #[.int .i64 3, .string table, .slice (some ⟨b, off, none⟩) 1 p, .slice o ks.length q, .string name, .string to] 46))
    replace c2 := cell_on c2 (ch_alloc (Below.refl w.heap.size w) (.cells #[.int .i64 3, .string table, .slice (some ⟨b, off, none⟩) 1 p, .slice o ks.length q, .string name, .string to] 46))
    replace c3 := cell_on c3 (ch_alloc (Below.refl w.heap.size w) (.cells #[.int .i64 3, .string table, .slice (some ⟨b, off, none⟩) 1 p, .slice o ks.length q, .string name, .string to] 46))
    replace c4 := cell_on c4 (ch_alloc (Below.refl w.heap.size w) (.cells #[.int .i64 3, .string table, .slice (some ⟨b, off, none⟩) 1 p, .slice o ks.length q, .string name, .string to] 46))
    replace c5 := cell_on c5 (ch_alloc (Below.refl w.heap.size w) (.cells #[.int .i64 3, .string table, .slice (some ⟨b, off, none⟩) 1 p, .slice o ks.length q, .string name, .string to] 46))
    replace c6 := cell_on c6 (ch_alloc (Below.refl w.heap.size w) (.cells #[.int .i64 3, .string table, .slice (some ⟨b, off, none⟩) 1 p, .slice o ks.length q, .string name, .string to] 46))
    cases hok : c.ok
    · have HN : Hid (¬ R) := fun h => by have := (HR'.out.1 h).1; rw [hok] at this; cases this
      rw [hok] at HS
      clear HR' hok
      go_enter Tryz.func101, Tryz.ntmps101
      go_wp2_with (first | (go_at_call 129; refine (HS.out _).mono ?_; rintro e w1 ⟨rfl, b1⟩; have HL1 := HL.on b1; obtain ⟨l0, l1, l2, l3, l4, l5⟩ := HL1.six; have g2 := cell_on c2 b1; have g3 := cell_on c3 b1) | (go_at_call 98; refine (HW.out _ _ (by first | exact HF1.out | exact HF4.out | exact HF5.out)).mono ?_; rintro e w' ⟨rfl, hww⟩; subst w'))
      all_goals
        go_ret
        exact ⟨_, rfl, ⟨fun h => by simp at h, fun h => absurd h HN.out⟩, (by repeat (first | with_reducible exact Below.refl _ _ | with_reducible assumption | with_reducible refine ch_alloc ?_ _ | with_reducible refine Below.drew ?_ | with_reducible refine below_draws _ ?_ | (with_reducible refine Below.setCell ?_ ?_ _; rotate_left; focus (first | with_reducible exact Nat.le_refl _ | (simp; done) | (simp; omega) | (simp at *; omega))) | with_reducible refine ch_trans ?_ (by with_reducible assumption)))⟩
    · rw [hok] at HS HR'
      clear hok
      obtain ⟨cn, ct, cnt, chas, cdt, cdn, cds⟩ := c
      cases cnt <;> cases chas
      all_goals
        simp only at c0 c1 c2 c3 c4 c5 c6 HR'
        go_enter Tryz.func101, Tryz.ntmps101
        go_wp2_with (first | (go_at_call 129; refine (HS.out _).mono ?_; rintro e w1 ⟨rfl, b1⟩; have HL1 := HL.on b1; obtain ⟨l0, l1, l2, l3, l4, l5⟩ := HL1.six; have g2 := cell_on c2 b1; have g3 := cell_on c3 b1) | (go_at_call 98; refine (HW.out _ _ (by first | exact HF1.out | exact HF4.out | exact HF5.out)).mono ?_; rintro e w' ⟨rfl, hww⟩; subst w'))
        all_goals
          go_ret
          refine ⟨_, rfl, ?_, (by repeat (first | with_reducible exact Below.refl _ _ | with_reducible assumption | with_reducible refine ch_alloc ?_ _ | with_reducible refine Below.drew ?_ | with_reducible refine below_draws _ ?_ | (with_reducible refine Below.setCell ?_ ?_ _; rotate_left; focus (first | with_reducible exact Nat.le_refl _ | (simp; done) | (simp; omega) | (simp at *; omega))) | with_reducible refine ch_trans ?_ (by with_reducible assumption)))⟩
          rw [HR'.out]
          simp [noneB, *]
  · have HN : Hid (¬ R) := fun h => hc1 (HR.out.1 h).1
    have e1 : ((cs.length : Int) == 1) = false := by simp; omega
    clear HR
    go_enter Tryz.func101, Tryz.ntmps101
    go_wp2_with (go_at_call 98; refine (HW.out _ _ (by first | exact HF1.out | exact HF4.out | exact HF5.out)).mono ?_; rintro e w' ⟨rfl, hww⟩; subst w')
    all_goals
      go_ret
      exact ⟨_, rfl, ⟨fun h => by simp at h, fun h => absurd h HN.out⟩, (by repeat (first | with_reducible exact Below.refl _ _ | with_reducible assumption | with_reducible refine ch_alloc ?_ _ | with_reducible refine Below.drew ?_ | with_reducible refine below_draws _ ?_ | (with_reducible refine Below.setCell ?_ ?_ _; rotate_left; focus (first | with_reducible exact Nat.le_refl _ | (simp; done) | (simp; omega) | (simp at *; omega))) | with_reducible refine ch_trans ?_ (by with_reducible assumption)))⟩

set_option maxRecDepth 100000 in
set_option maxHeartbeats 1000000 in
/-- spec.DdlOk, no word -/
theorem ddlOk_spec_no (x : Array Value) (t : Dc) (w : World) (hx : DdlV w x t) (hf : t.fit) (hw : wordB t.table = false) :
    Calls Tryz.prog 101 #[.agg x] w fun e w' => ∃ q : Bool, e = .returned (.bool q) ∧ (q = true ↔ t.right) ∧ Below w.heap.size w w' := by
  obtain ⟨a, p, o, q, rfl, hx, hc, hkk⟩ := hx.lit
  have HW : Hid (∀ (w : World), Calls Tryz.prog 98 #[.string t.table] w fun e w' => e = .returned (.bool (wordB t.table)) ∧ w' = w) := fun w => word_spec _ w hf.1
  have HN : Hid (¬ t.right) := fun h => by have := h.1; rw [hw] at this; cases this
  clear hx hc hkk hf
  generalize t.right = R at HN ⊢
  go_enter Tryz.func101, Tryz.ntmps101
  go_wp2_with (go_at_call 98; refine (HW.out _).mono ?_; rintro e w' ⟨rfl, hww⟩; subst w')
  go_ret
  exact ⟨_, rfl, ⟨fun h => by simp at h, fun h => absurd h HN.out⟩, (by repeat (first | with_reducible exact Below.refl _ _ | with_reducible assumption | with_reducible refine ch_alloc ?_ _ | with_reducible refine Below.drew ?_ | with_reducible refine below_draws _ ?_ | (with_reducible refine Below.setCell ?_ ?_ _; rotate_left; focus (first | with_reducible exact Nat.le_refl _ | (simp; done) | (simp; omega) | (simp at *; omega))) | with_reducible refine ch_trans ?_ (by with_reducible assumption)))⟩

/-- spec.DdlOk -/
theorem ddlOk_spec (x : Array Value) (t : Dc) (w : World) (hx : DdlV w x t) (hf : t.fit) :
    Calls Tryz.prog 101 #[.agg x] w fun e w' => ∃ q : Bool, e = .returned (.bool q) ∧ (q = true ↔ t.right) ∧ Below w.heap.size w w' := by
  cases hw : wordB t.table
  · exact ddlOk_spec_no x t w hx hf hw
  by_cases k1 : t.kind = 1
  · exact ddlOk_spec_1 x t w hx hf hw k1
  by_cases k2 : t.kind = 2
  · exact ddlOk_spec_2 x t w hx hf hw k2
  by_cases k3 : t.kind = 3
  · exact ddlOk_spec_3 x t w hx hf hw k3
  by_cases k4 : t.kind = 4
  · exact ddlOk_spec_4 x t w hx hf hw k4
  by_cases k5 : t.kind = 5
  · exact ddlOk_spec_5 x t w hx hf hw k5
  exact ddlOk_spec_0 x t w hx hf hw ⟨k1, k2, k3, k4, k5⟩
end Go.Proofs.YtiijahoheajppaaGreat

namespace Go.Proofs.YtiijahoheajppaaGreat
open Go.ChangeShapes Go.WideShapes Go.ChangeAt Go.RowKit

set_option maxRecDepth 100000 in
set_option maxHeartbeats 1000000 in
/-- impl.mayComeLater -/
theorem later_any (c : Cl) (w : World) (hn : c.name.size ≤ maxLen) : Calls Tryz.prog 142 #[c.v] w fun e w' => e = .returned (.bool (c.ok && (c.has || !c.nt))) ∧ Below w.heap.size w w' := by
  have HS : Hid (∀ w : World, Calls Tryz.prog 153 #[c.v] w fun e w' => e = .returned (.bool c.ok) ∧ Below w.heap.size w w') := fun w => colOk_impl c w hn
  clear hn
  have HL := Loc.new w c.cells 131
  generalize c.ok = k at HS
  obtain ⟨cn, ct, cnt, chas, cdt, cdn, cds⟩ := c
  cases k <;> cases cnt <;> cases chas
  all_goals
    go_enter Tryz.func142, Tryz.ntmps142
    go_wp2_with (go_at_call 153; refine (HS.out _).mono ?_; rintro e w1 ⟨rfl, b1⟩; have HL1 := HL.on b1; obtain ⟨l0, l1, l2, l3, l4, l5, l6⟩ := HL1.seven)
    go_ret
    exact ⟨rfl, (by repeat (first | with_reducible exact Below.refl _ _ | with_reducible assumption | with_reducible refine ch_alloc ?_ _ | with_reducible refine Below.drew ?_ | with_reducible refine below_draws _ ?_ | (with_reducible refine Below.setCell ?_ ?_ _; rotate_left; focus (first | with_reducible exact Nat.le_refl _ | (simp; done) | (simp; omega) | (simp at *; omega))) | with_reducible refine ch_trans ?_ (by with_reducible assumption)))⟩

set_option maxRecDepth 100000 in
set_option maxHeartbeats 1000000 in
/-- impl.createdTable -/
theorem created_any (kind : Int) (table name to : ByteArray) (a o : Option Addr) (n p m q : Nat) (w : World) : Calls Tryz.prog 141 #[.agg #[.int .i64 kind, .string table, .slice a n p, .slice o m q, .string name, .string to]] w fun e w' => e = .returned (.agg #[.string table, .slice a n p, .slice o m q]) ∧ Below w.heap.size w w' := by
  go_enter Tryz.func141, Tryz.ntmps141
  go_wp2
  exact bodyPost_ret (v := .agg #[.string table, .slice a n p, .slice o m q]) (by simp [results, Tryz.results141, go_sem]) rfl ⟨rfl, (by repeat (first | with_reducible exact Below.refl _ _ | with_reducible assumption | with_reducible refine ch_alloc ?_ _ | with_reducible refine Below.drew ?_ | with_reducible refine below_draws _ ?_ | (with_reducible refine Below.setCell ?_ ?_ _; rotate_left; focus (first | with_reducible exact Nat.le_refl _ | (simp; done) | (simp; omega) | (simp at *; omega))) | with_reducible refine ch_trans ?_ (by with_reducible assumption)))⟩

set_option maxRecDepth 100000 in
set_option maxHeartbeats 2000000 in
/-- impl.DdlOk, a drop -/
theorem ddlOk_impl_2 (x : Array Value) (t : Dc) (w : World) (hx : DdlV w x t) (hf : t.fit) (hk : t.kind = 2) :
    Calls Tryz.prog 117 #[.agg x] w fun e w' => ∃ q : Bool, e = .returned (.bool q) ∧ (q = true ↔ t.right) ∧ Below w.heap.size w w' := by
  obtain ⟨a, p, o, q, rfl, hx, hc, hkk⟩ := hx.lit
  have hcap : t.cols.length ≤ 9223372036854775807 ∧ t.keys.length ≤ 9223372036854775807 := by
    obtain ⟨_, _, e, h1, h2, _⟩ := hc
    obtain ⟨_, _, e', h1', h2', _⟩ := hkk
    unfold maxLen at h2 h2'
    omega
  obtain ⟨hl1, hl2⟩ := hcap
  have HW : Hid (∀ (s : ByteArray) (w : World), s.size ≤ maxLen → Calls Tryz.prog 118 #[.string s] w fun e w' => e = .returned (.bool (wordB s)) ∧ w' = w) := fun s w h => word_impl s w h
  have HC : Hid (ColsV w (.slice a t.cols.length p) t.cols) := hc
  have HK : Hid (StrsV w (.slice o t.keys.length q) t.keys) := hkk
  have HL := Loc.new w #[.int .i64 t.kind, .string t.table, .slice a t.cols.length p, .slice o t.keys.length q, .string t.name, .string t.to] 46
  clear hx hc hkk
  obtain ⟨kind, table, cs, ks, name, to⟩ := t
  have HR0 : Dc.right ⟨kind, table, cs, ks, name, to⟩ ↔ Dc.right ⟨kind, table, cs, ks, name, to⟩ := Iff.rfl
  conv at HR0 => rhs; unfold Dc.right
  generalize Dc.right ⟨kind, table, cs, ks, name, to⟩ = R at HR0 ⊢
  simp only at HL HC HK HR0 hl1 hl2 hk
  obtain ⟨hf1, hf2, hf3, hf4, hf5⟩ := hf
  simp only at hf1 hf2 hf3 hf4 hf5
  have HF2 : Hid (∀ c ∈ cs, c.name.size ≤ maxLen ∧ c.ds.size ≤ maxLen) := hf2
  have HF3 : Hid (∀ s ∈ ks, s.size ≤ maxLen) := hf3
  have HF1 : Hid (table.size ≤ maxLen) := hf1
  have HF4 : Hid (name.size ≤ maxLen) := hf4
  have HF5 : Hid (to.size ≤ maxLen) := hf5
  clear hf1 hf2 hf3 hf4 hf5
  subst hk
  have HR : Hid (R ↔ (wordB table = true ∧ (cs.length = 0 ∧ ks.length = 0 ∧ noneB name = true ∧ noneB to = true))) := HR0.trans (by simp)
  clear HR0
  cases hw : wordB table
  all_goals
    go_enter Tryz.func117, Tryz.ntmps117
    go_wp2_with (go_at_call 118; refine (HW.out _ _ (by first | exact HF1.out | exact HF4.out | exact HF5.out)).mono ?_; rintro e w' ⟨rfl, hww⟩; subst w')
    all_goals
      go_ret
      refine ⟨_, rfl, ?_, (by repeat (first | with_reducible exact Below.refl _ _ | with_reducible assumption | with_reducible refine ch_alloc ?_ _ | with_reducible refine Below.drew ?_ | with_reducible refine below_draws _ ?_ | (with_reducible refine Below.setCell ?_ ?_ _; rotate_left; focus (first | with_reducible exact Nat.le_refl _ | (simp; done) | (simp; omega) | (simp at *; omega))) | with_reducible refine ch_trans ?_ (by with_reducible assumption)))⟩
      rw [HR.out]
      simp [noneB, *]

set_option maxRecDepth 100000 in
set_option maxHeartbeats 2000000 in
/-- impl.DdlOk, a column out -/
theorem ddlOk_impl_4 (x : Array Value) (t : Dc) (w : World) (hx : DdlV w x t) (hf : t.fit) (hk : t.kind = 4) :
    Calls Tryz.prog 117 #[.agg x] w fun e w' => ∃ q : Bool, e = .returned (.bool q) ∧ (q = true ↔ t.right) ∧ Below w.heap.size w w' := by
  obtain ⟨a, p, o, q, rfl, hx, hc, hkk⟩ := hx.lit
  have hcap : t.cols.length ≤ 9223372036854775807 ∧ t.keys.length ≤ 9223372036854775807 := by
    obtain ⟨_, _, e, h1, h2, _⟩ := hc
    obtain ⟨_, _, e', h1', h2', _⟩ := hkk
    unfold maxLen at h2 h2'
    omega
  obtain ⟨hl1, hl2⟩ := hcap
  have HW : Hid (∀ (s : ByteArray) (w : World), s.size ≤ maxLen → Calls Tryz.prog 118 #[.string s] w fun e w' => e = .returned (.bool (wordB s)) ∧ w' = w) := fun s w h => word_impl s w h
  have HC : Hid (ColsV w (.slice a t.cols.length p) t.cols) := hc
  have HK : Hid (StrsV w (.slice o t.keys.length q) t.keys) := hkk
  have HL := Loc.new w #[.int .i64 t.kind, .string t.table, .slice a t.cols.length p, .slice o t.keys.length q, .string t.name, .string t.to] 46
  clear hx hc hkk
  obtain ⟨kind, table, cs, ks, name, to⟩ := t
  have HR0 : Dc.right ⟨kind, table, cs, ks, name, to⟩ ↔ Dc.right ⟨kind, table, cs, ks, name, to⟩ := Iff.rfl
  conv at HR0 => rhs; unfold Dc.right
  generalize Dc.right ⟨kind, table, cs, ks, name, to⟩ = R at HR0 ⊢
  simp only at HL HC HK HR0 hl1 hl2 hk
  obtain ⟨hf1, hf2, hf3, hf4, hf5⟩ := hf
  simp only at hf1 hf2 hf3 hf4 hf5
  have HF2 : Hid (∀ c ∈ cs, c.name.size ≤ maxLen ∧ c.ds.size ≤ maxLen) := hf2
  have HF3 : Hid (∀ s ∈ ks, s.size ≤ maxLen) := hf3
  have HF1 : Hid (table.size ≤ maxLen) := hf1
  have HF4 : Hid (name.size ≤ maxLen) := hf4
  have HF5 : Hid (to.size ≤ maxLen) := hf5
  clear hf1 hf2 hf3 hf4 hf5
  subst hk
  have HR : Hid (R ↔ (wordB table = true ∧ (cs.length = 0 ∧ ks.length = 0 ∧ wordB name = true ∧ noneB to = true))) := HR0.trans (by simp)
  clear HR0
  cases hw : wordB table <;> cases hn : wordB name
  all_goals
    go_enter Tryz.func117, Tryz.ntmps117
    go_wp2_with (go_at_call 118; refine (HW.out _ _ (by first | exact HF1.out | exact HF4.out | exact HF5.out)).mono ?_; rintro e w' ⟨rfl, hww⟩; subst w')
    all_goals
      go_ret
      refine ⟨_, rfl, ?_, (by repeat (first | with_reducible exact Below.refl _ _ | with_reducible assumption | with_reducible refine ch_alloc ?_ _ | with_reducible refine Below.drew ?_ | with_reducible refine below_draws _ ?_ | (with_reducible refine Below.setCell ?_ ?_ _; rotate_left; focus (first | with_reducible exact Nat.le_refl _ | (simp; done) | (simp; omega) | (simp at *; omega))) | with_reducible refine ch_trans ?_ (by with_reducible assumption)))⟩
      rw [HR.out]
      simp [noneB, *]

set_option maxRecDepth 100000 in
set_option maxHeartbeats 2000000 in
/-- impl.DdlOk, a name -/
theorem ddlOk_impl_5 (x : Array Value) (t : Dc) (w : World) (hx : DdlV w x t) (hf : t.fit) (hk : t.kind = 5) :
    Calls Tryz.prog 117 #[.agg x] w fun e w' => ∃ q : Bool, e = .returned (.bool q) ∧ (q = true ↔ t.right) ∧ Below w.heap.size w w' := by
  obtain ⟨a, p, o, q, rfl, hx, hc, hkk⟩ := hx.lit
  have hcap : t.cols.length ≤ 9223372036854775807 ∧ t.keys.length ≤ 9223372036854775807 := by
    obtain ⟨_, _, e, h1, h2, _⟩ := hc
    obtain ⟨_, _, e', h1', h2', _⟩ := hkk
    unfold maxLen at h2 h2'
    omega
  obtain ⟨hl1, hl2⟩ := hcap
  have HW : Hid (∀ (s : ByteArray) (w : World), s.size ≤ maxLen → Calls Tryz.prog 118 #[.string s] w fun e w' => e = .returned (.bool (wordB s)) ∧ w' = w) := fun s w h => word_impl s w h
  have HC : Hid (ColsV w (.slice a t.cols.length p) t.cols) := hc
  have HK : Hid (StrsV w (.slice o t.keys.length q) t.keys) := hkk
  have HL := Loc.new w #[.int .i64 t.kind, .string t.table, .slice a t.cols.length p, .slice o t.keys.length q, .string t.name, .string t.to] 46
  clear hx hc hkk
  obtain ⟨kind, table, cs, ks, name, to⟩ := t
  have HR0 : Dc.right ⟨kind, table, cs, ks, name, to⟩ ↔ Dc.right ⟨kind, table, cs, ks, name, to⟩ := Iff.rfl
  conv at HR0 => rhs; unfold Dc.right
  generalize Dc.right ⟨kind, table, cs, ks, name, to⟩ = R at HR0 ⊢
  simp only at HL HC HK HR0 hl1 hl2 hk
  obtain ⟨hf1, hf2, hf3, hf4, hf5⟩ := hf
  simp only at hf1 hf2 hf3 hf4 hf5
  have HF2 : Hid (∀ c ∈ cs, c.name.size ≤ maxLen ∧ c.ds.size ≤ maxLen) := hf2
  have HF3 : Hid (∀ s ∈ ks, s.size ≤ maxLen) := hf3
  have HF1 : Hid (table.size ≤ maxLen) := hf1
  have HF4 : Hid (name.size ≤ maxLen) := hf4
  have HF5 : Hid (to.size ≤ maxLen) := hf5
  clear hf1 hf2 hf3 hf4 hf5
  subst hk
  have HR : Hid (R ↔ (wordB table = true ∧ (cs.length = 0 ∧ ks.length = 0 ∧ wordB name = true ∧ wordB to = true))) := HR0.trans (by simp)
  clear HR0
  cases hw : wordB table <;> cases hn : wordB name <;> cases ht : wordB to
  all_goals
    go_enter Tryz.func117, Tryz.ntmps117
    go_wp2_with (go_at_call 118; refine (HW.out _ _ (by first | exact HF1.out | exact HF4.out | exact HF5.out)).mono ?_; rintro e w' ⟨rfl, hww⟩; subst w')
    all_goals
      go_ret
      refine ⟨_, rfl, ?_, (by repeat (first | with_reducible exact Below.refl _ _ | with_reducible assumption | with_reducible refine ch_alloc ?_ _ | with_reducible refine Below.drew ?_ | with_reducible refine below_draws _ ?_ | (with_reducible refine Below.setCell ?_ ?_ _; rotate_left; focus (first | with_reducible exact Nat.le_refl _ | (simp; done) | (simp; omega) | (simp at *; omega))) | with_reducible refine ch_trans ?_ (by with_reducible assumption)))⟩
      rw [HR.out]
      simp [*]

set_option maxRecDepth 100000 in
set_option maxHeartbeats 2000000 in
/-- impl.DdlOk, a create -/
theorem ddlOk_impl_1 (x : Array Value) (t : Dc) (w : World) (hx : DdlV w x t) (hf : t.fit) (hk : t.kind = 1) :
    Calls Tryz.prog 117 #[.agg x] w fun e w' => ∃ q : Bool, e = .returned (.bool q) ∧ (q = true ↔ t.right) ∧ Below w.heap.size w w' := by
  obtain ⟨a, p, o, q, rfl, hx, hc, hkk⟩ := hx.lit
  have hcap : t.cols.length ≤ 9223372036854775807 ∧ t.keys.length ≤ 9223372036854775807 := by
    obtain ⟨_, _, e, h1, h2, _⟩ := hc
    obtain ⟨_, _, e', h1', h2', _⟩ := hkk
    unfold maxLen at h2 h2'
    omega
  obtain ⟨hl1, hl2⟩ := hcap
  have HW : Hid (∀ (s : ByteArray) (w : World), s.size ≤ maxLen → Calls Tryz.prog 118 #[.string s] w fun e w' => e = .returned (.bool (wordB s)) ∧ w' = w) := fun s w h => word_impl s w h
  have HC : Hid (ColsV w (.slice a t.cols.length p) t.cols) := hc
  have HK : Hid (StrsV w (.slice o t.keys.length q) t.keys) := hkk
  have HL := Loc.new w #[.int .i64 t.kind, .string t.table, .slice a t.cols.length p, .slice o t.keys.length q, .string t.name, .string t.to] 46
  clear hx hc hkk
  obtain ⟨kind, table, cs, ks, name, to⟩ := t
  have HR0 : Dc.right ⟨kind, table, cs, ks, name, to⟩ ↔ Dc.right ⟨kind, table, cs, ks, name, to⟩ := Iff.rfl
  conv at HR0 => rhs; unfold Dc.right
  generalize Dc.right ⟨kind, table, cs, ks, name, to⟩ = R at HR0 ⊢
  simp only at HL HC HK HR0 hl1 hl2 hk
  obtain ⟨hf1, hf2, hf3, hf4, hf5⟩ := hf
  simp only at hf1 hf2 hf3 hf4 hf5
  have HF2 : Hid (∀ c ∈ cs, c.name.size ≤ maxLen ∧ c.ds.size ≤ maxLen) := hf2
  have HF3 : Hid (∀ s ∈ ks, s.size ≤ maxLen) := hf3
  have HF1 : Hid (table.size ≤ maxLen) := hf1
  have HF4 : Hid (name.size ≤ maxLen) := hf4
  have HF5 : Hid (to.size ≤ maxLen) := hf5
  clear hf1 hf2 hf3 hf4 hf5
  subst hk
  have HR : Hid (R ↔ (noneB name = true ∧ noneB to = true ∧ Tc.right ⟨table, cs, ks⟩)) := HR0.trans (by simp; exact fun _ _ h => h.1)
  clear HR0
  have HT : Hid (∀ u : World, ColsV u (.slice a cs.length p) cs → StrsV u (.slice o ks.length q) ks → Calls Tryz.prog 140 #[.agg #[.string table, .slice a cs.length p, .slice o ks.length q]] u fun e w' => ∃ q : Bool, e = .returned (.bool q) ∧ (q = true ↔ Tc.right ⟨table, cs, ks⟩) ∧ Below u.heap.size u w') := fun u h1 h2 => tableOk_impl _ ⟨table, cs, ks⟩ u ⟨_, _, rfl, h1, h2⟩ ⟨HF1.out, HF2.out, HF3.out⟩
  generalize Tc.right ⟨table, cs, ks⟩ = Z at HT HR
  cases ec : ((cs.length : Int) == 0) <;> cases ek : ((ks.length : Int) == 0) <;> cases en : name.toList.isEmpty <;> cases et : to.toList.isEmpty
  all_goals
    have h := HR.out
    rw [noneB, noneB, en, et] at h
    have HR' : Hid (R ↔ _) := h
    clear HR h
    go_enter Tryz.func117, Tryz.ntmps117
    go_wp2_with (go_at_call 141; refine (created_any _ _ _ _ _ _ _ _ _ _ _).mono ?_; rintro e w1 ⟨rfl, b1⟩)
    refine (HT.out _ (HC.out.on (by repeat (first | with_reducible exact Below.refl _ _ | with_reducible assumption | with_reducible refine ch_alloc ?_ _ | with_reducible refine Below.drew ?_ | with_reducible refine below_draws _ ?_ | (with_reducible refine Below.setCell ?_ ?_ _; rotate_left; focus (first | with_reducible exact Nat.le_refl _ | (simp; done) | (simp; omega) | (simp at *; omega))) | with_reducible refine ch_trans ?_ (by with_reducible assumption)))) (HK.out.on (by repeat (first | with_reducible exact Below.refl _ _ | with_reducible assumption | with_reducible refine ch_alloc ?_ _ | with_reducible refine Below.drew ?_ | with_reducible refine below_draws _ ?_ | (with_reducible refine Below.setCell ?_ ?_ _; rotate_left; focus (first | with_reducible exact Nat.le_refl _ | (simp; done) | (simp; omega) | (simp at *; omega))) | with_reducible refine ch_trans ?_ (by with_reducible assumption))))).mono ?_
    rintro e w2 ⟨qq, rfl, hqq, b2⟩
    have HZ : Hid (qq = true ↔ Z) := hqq
    clear hqq
    cases qq
    all_goals
      go_wp2
      go_ret
      refine ⟨_, rfl, ?_, (by repeat (first | with_reducible exact Below.refl _ _ | with_reducible assumption | with_reducible refine ch_alloc ?_ _ | with_reducible refine Below.drew ?_ | with_reducible refine below_draws _ ?_ | (with_reducible refine Below.setCell ?_ ?_ _; rotate_left; focus (first | with_reducible exact Nat.le_refl _ | (simp; done) | (simp; omega) | (simp at *; omega))) | with_reducible refine ch_trans ?_ (by with_reducible assumption)))⟩
      rw [HR'.out, ← HZ.out]
      simp

set_option maxRecDepth 100000 in
set_option maxHeartbeats 2000000 in
/-- impl.DdlOk, another kind -/
theorem ddlOk_impl_0 (x : Array Value) (t : Dc) (w : World) (hx : DdlV w x t) (hf : t.fit) (hk : t.kind ≠ 1 ∧ t.kind ≠ 2 ∧ t.kind ≠ 3 ∧ t.kind ≠ 4 ∧ t.kind ≠ 5) :
    Calls Tryz.prog 117 #[.agg x] w fun e w' => ∃ q : Bool, e = .returned (.bool q) ∧ (q = true ↔ t.right) ∧ Below w.heap.size w w' := by
  obtain ⟨a, p, o, q, rfl, hx, hc, hkk⟩ := hx.lit
  have hcap : t.cols.length ≤ 9223372036854775807 ∧ t.keys.length ≤ 9223372036854775807 := by
    obtain ⟨_, _, e, h1, h2, _⟩ := hc
    obtain ⟨_, _, e', h1', h2', _⟩ := hkk
    unfold maxLen at h2 h2'
    omega
  obtain ⟨hl1, hl2⟩ := hcap
  have HW : Hid (∀ (s : ByteArray) (w : World), s.size ≤ maxLen → Calls Tryz.prog 118 #[.string s] w fun e w' => e = .returned (.bool (wordB s)) ∧ w' = w) := fun s w h => word_impl s w h
  have HC : Hid (ColsV w (.slice a t.cols.length p) t.cols) := hc
  have HK : Hid (StrsV w (.slice o t.keys.length q) t.keys) := hkk
  have HL := Loc.new w #[.int .i64 t.kind, .string t.table, .slice a t.cols.length p, .slice o t.keys.length q, .string t.name, .string t.to] 46
  clear hx hc hkk
  obtain ⟨kind, table, cs, ks, name, to⟩ := t
  have HR0 : Dc.right ⟨kind, table, cs, ks, name, to⟩ ↔ Dc.right ⟨kind, table, cs, ks, name, to⟩ := Iff.rfl
  conv at HR0 => rhs; unfold Dc.right
  generalize Dc.right ⟨kind, table, cs, ks, name, to⟩ = R at HR0 ⊢
  simp only at HL HC HK HR0 hl1 hl2 hk
  obtain ⟨hf1, hf2, hf3, hf4, hf5⟩ := hf
  simp only at hf1 hf2 hf3 hf4 hf5
  have HF2 : Hid (∀ c ∈ cs, c.name.size ≤ maxLen ∧ c.ds.size ≤ maxLen) := hf2
  have HF3 : Hid (∀ s ∈ ks, s.size ≤ maxLen) := hf3
  have HF1 : Hid (table.size ≤ maxLen) := hf1
  have HF4 : Hid (name.size ≤ maxLen) := hf4
  have HF5 : Hid (to.size ≤ maxLen) := hf5
  clear hf1 hf2 hf3 hf4 hf5
  obtain ⟨k1, k2, k3, k4, k5⟩ := hk
  have HR : Hid (¬ R) := fun h => by have := HR0.1 h; simp [k1, k2, k3, k4, k5] at this
  clear HR0
  have e1 : (kind == 1) = false := by simp [k1]
  have e2 : (kind == 2) = false := by simp [k2]
  have e3 : (kind == 3) = false := by simp [k3]
  have e4 : (kind == 4) = false := by simp [k4]
  have e5 : (kind == 5) = false := by simp [k5]
  clear k1 k2 k3 k4 k5
  go_enter Tryz.func117, Tryz.ntmps117
  go_wp2_with (go_at_call 118; refine (HW.out _ _ (by first | exact HF1.out | exact HF4.out | exact HF5.out)).mono ?_; rintro e w' ⟨rfl, hww⟩; subst w')
  all_goals
    go_ret
    first
      | exact ⟨_, rfl, ⟨fun h => by simp at h, fun h => absurd h HR.out⟩, (by repeat (first | with_reducible exact Below.refl _ _ | with_reducible assumption | with_reducible refine ch_alloc ?_ _ | with_reducible refine Below.drew ?_ | with_reducible refine below_draws _ ?_ | (with_reducible refine Below.setCell ?_ ?_ _; rotate_left; focus (first | with_reducible exact Nat.le_refl _ | (simp; done) | (simp; omega) | (simp at *; omega))) | with_reducible refine ch_trans ?_ (by with_reducible assumption)))⟩
      | exact Or.inl ⟨rfl, HR.out, (by repeat (first | with_reducible exact Below.refl _ _ | with_reducible assumption | with_reducible refine ch_alloc ?_ _ | with_reducible refine Below.drew ?_ | with_reducible refine below_draws _ ?_ | (with_reducible refine Below.setCell ?_ ?_ _; rotate_left; focus (first | with_reducible exact Nat.le_refl _ | (simp; done) | (simp; omega) | (simp at *; omega))) | with_reducible refine ch_trans ?_ (by with_reducible assumption)))⟩

set_option maxRecDepth 100000 in
set_option maxHeartbeats 2000000 in
/-- impl.DdlOk, an add -/
theorem ddlOk_impl_3 (x : Array Value) (t : Dc) (w : World) (hx : DdlV w x t) (hf : t.fit) (hk : t.kind = 3) :
    Calls Tryz.prog 117 #[.agg x] w fun e w' => ∃ q : Bool, e = .returned (.bool q) ∧ (q = true ↔ t.right) ∧ Below w.heap.size w w' := by
  obtain ⟨a, p, o, q, rfl, hx, hc, hkk⟩ := hx.lit
  have hcap : t.cols.length ≤ 9223372036854775807 ∧ t.keys.length ≤ 9223372036854775807 := by
    obtain ⟨_, _, e, h1, h2, _⟩ := hc
    obtain ⟨_, _, e', h1', h2', _⟩ := hkk
    unfold maxLen at h2 h2'
    omega
  obtain ⟨hl1, hl2⟩ := hcap
  have HW : Hid (∀ (s : ByteArray) (w : World), s.size ≤ maxLen → Calls Tryz.prog 118 #[.string s] w fun e w' => e = .returned (.bool (wordB s)) ∧ w' = w) := fun s w h => word_impl s w h
  have HC : Hid (ColsV w (.slice a t.cols.length p) t.cols) := hc
  have HK : Hid (StrsV w (.slice o t.keys.length q) t.keys) := hkk
  have HL := Loc.new w #[.int .i64 t.kind, .string t.table, .slice a t.cols.length p, .slice o t.keys.length q, .string t.name, .string t.to] 46
  clear hx hc hkk
  obtain ⟨kind, table, cs, ks, name, to⟩ := t
  have HR0 : Dc.right ⟨kind, table, cs, ks, name, to⟩ ↔ Dc.right ⟨kind, table, cs, ks, name, to⟩ := Iff.rfl
  conv at HR0 => rhs; unfold Dc.right
  generalize Dc.right ⟨kind, table, cs, ks, name, to⟩ = R at HR0 ⊢
  simp only at HL HC HK HR0 hl1 hl2 hk
  obtain ⟨hf1, hf2, hf3, hf4, hf5⟩ := hf
  simp only at hf1 hf2 hf3 hf4 hf5
  have HF2 : Hid (∀ c ∈ cs, c.name.size ≤ maxLen ∧ c.ds.size ≤ maxLen) := hf2
  have HF3 : Hid (∀ s ∈ ks, s.size ≤ maxLen) := hf3
  have HF1 : Hid (table.size ≤ maxLen) := hf1
  have HF4 : Hid (name.size ≤ maxLen) := hf4
  have HF5 : Hid (to.size ≤ maxLen) := hf5
  clear hf1 hf2 hf3 hf4 hf5
  subst hk
  have HR : Hid (R ↔ (wordB table = true ∧ cs.length = 1 ∧ (∀ (h : 0 < cs.length), cs[0].ok = true ∧ (cs[0].has = true ∨ cs[0].nt = false)) ∧ ks.length = 0 ∧ noneB name = true ∧ noneB to = true)) := HR0.trans (by simp)
  clear HR0
  cases hw : wordB table
  · have HN : Hid (¬ R) := fun h => by have := (HR.out.1 h).1; rw [hw] at this; cases this
    clear HR
    go_enter Tryz.func117, Tryz.ntmps117
    go_wp2_with (go_at_call 118; refine (HW.out _ _ (by first | exact HF1.out | exact HF4.out | exact HF5.out)).mono ?_; rintro e w' ⟨rfl, hww⟩; subst w')
    all_goals
      go_ret
      exact ⟨_, rfl, ⟨fun h => by simp at h, fun h => absurd h HN.out⟩, (by repeat (first | with_reducible exact Below.refl _ _ | with_reducible assumption | with_reducible refine ch_alloc ?_ _ | with_reducible refine Below.drew ?_ | with_reducible refine below_draws _ ?_ | (with_reducible refine Below.setCell ?_ ?_ _; rotate_left; focus (first | with_reducible exact Nat.le_refl _ | (simp; done) | (simp; omega) | (simp at *; omega))) | with_reducible refine ch_trans ?_ (by with_reducible assumption)))⟩
  by_cases hc1 : cs.length = 1
  · obtain ⟨c, rfl⟩ : ∃ c, cs = [c] := List.length_eq_one_iff.1 hc1
    obtain ⟨b, off, rfl, c0, c1, c2, c3, c4, c5, c6⟩ : ∃ b off, a = some ⟨b, off, none⟩ ∧ _ := by
      obtain ⟨a', cap', e, _, _, hr⟩ := HC.out
      cases e
      exact hr.cols 0 (by simp)
    simp only [Nat.zero_mul, Nat.add_zero, List.getElem_cons_zero] at c0 c1 c2 c3 c4 c5 c6
    have HS : Hid (∀ w : World, Calls Tryz.prog 142 #[c.v] w fun e w' => e = .returned (.bool (c.ok && (c.has || !c.nt))) ∧ Below w.heap.size w w') := fun w => later_any c w (HF2.out _ (by simp)).1
    have HR' : Hid (R ↔ ((c.ok && (c.has || !c.nt)) = true ∧ ks.length = 0 ∧ noneB name = true ∧ noneB to = true)) := HR.out.trans (by rw [hw]; simp [and_assoc])
    clear HR hc1
    simp only [List.length_cons, List.length_nil, Nat.zero_add] at HL HC
    replace c0 := cell_on c0 (ch_alloc (Below.refl w.heap.size w) (.cells #[.int .i64 3, .string table, .slice (some ⟨b, off, none⟩) 1 p, .slice o ks.length q, .string name, .string to] 46))
    replace c1 := cell_on c1 (ch_alloc (Below.refl w.heap.size w) (.cells #[.int .i64 3, .string table, .slice (some ⟨b, off, none⟩) 1 p, .slice o ks.length q, .string name, .string to] 46))
    replace c2 := cell_on c2 (ch_alloc (Below.refl w.heap.size w) (.cells #[.int .i64 3, .string table, .slice (some ⟨b, off, none⟩) 1 p, .slice o ks.length q, .string name, .string to] 46))
    replace c3 := cell_on c3 (ch_alloc (Below.refl w.heap.size w) (.cells #[.int .i64 3, .string table, .slice (some ⟨b, off, none⟩) 1 p, .slice o ks.length q, .string name, .string to] 46))
    replace c4 := cell_on c4 (ch_alloc (Below.refl w.heap.size w) (.cells #[.int .i64 3, .string table, .slice (some ⟨b, off, none⟩) 1 p, .slice o ks.length q, .string name, .string to] 46))
    replace c5 := cell_on c5 (ch_alloc (Below.refl w.heap.size w) (.cells #[.int .i64 3, .string table, .slice (some ⟨b, off, none⟩) 1 p, .slice o ks.length q, .string name, .string to] 46))
    replace c6 := cell_on c6 (ch_alloc (Below.refl w.heap.size w) (.cells #[.int .i64 3, .string table, .slice (some ⟨b, off, none⟩) 1 p, .slice o ks.length q, .string name, .string to] 46))
    generalize (c.ok && (c.has || !c.nt)) = kk at HS HR'
    cases kk
    all_goals
      go_enter Tryz.func117, Tryz.ntmps117
      go_wp2_with (first | (go_at_call 142; refine (HS.out _).mono ?_; rintro e w1 ⟨rfl, b1⟩; have HL1 := HL.on b1; obtain ⟨l0, l1, l2, l3, l4, l5⟩ := HL1.six) | (go_at_call 118; refine (HW.out _ _ (by first | exact HF1.out | exact HF4.out | exact HF5.out)).mono ?_; rintro e w' ⟨rfl, hww⟩; subst w'))
      all_goals
        go_ret
        refine ⟨_, rfl, ?_, (by repeat (first | with_reducible exact Below.refl _ _ | with_reducible assumption | with_reducible refine ch_alloc ?_ _ | with_reducible refine Below.drew ?_ | with_reducible refine below_draws _ ?_ | (with_reducible refine Below.setCell ?_ ?_ _; rotate_left; focus (first | with_reducible exact Nat.le_refl _ | (simp; done) | (simp; omega) | (simp at *; omega))) | with_reducible refine ch_trans ?_ (by with_reducible assumption)))⟩
        rw [HR'.out]
        simp [noneB, *]
  · have HN : Hid (¬ R) := fun h => hc1 (HR.out.1 h).2.1
    have e1 : ((cs.length : Int) == 1) = false := by simp; omega
    clear HR
    go_enter Tryz.func117, Tryz.ntmps117
    go_wp2_with (go_at_call 118; refine (HW.out _ _ (by first | exact HF1.out | exact HF4.out | exact HF5.out)).mono ?_; rintro e w' ⟨rfl, hww⟩; subst w')
    all_goals
      go_ret
      exact ⟨_, rfl, ⟨fun h => by simp at h, fun h => absurd h HN.out⟩, (by repeat (first | with_reducible exact Below.refl _ _ | with_reducible assumption | with_reducible refine ch_alloc ?_ _ | with_reducible refine Below.drew ?_ | with_reducible refine below_draws _ ?_ | (with_reducible refine Below.setCell ?_ ?_ _; rotate_left; focus (first | with_reducible exact Nat.le_refl _ | (simp; done) | (simp; omega) | (simp at *; omega))) | with_reducible refine ch_trans ?_ (by with_reducible assumption)))⟩

/-- impl.DdlOk -/
theorem ddlOk_impl (x : Array Value) (t : Dc) (w : World) (hx : DdlV w x t) (hf : t.fit) :
    Calls Tryz.prog 117 #[.agg x] w fun e w' => ∃ q : Bool, e = .returned (.bool q) ∧ (q = true ↔ t.right) ∧ Below w.heap.size w w' := by
  by_cases k1 : t.kind = 1
  · exact ddlOk_impl_1 x t w hx hf k1
  by_cases k2 : t.kind = 2
  · exact ddlOk_impl_2 x t w hx hf k2
  by_cases k3 : t.kind = 3
  · exact ddlOk_impl_3 x t w hx hf k3
  by_cases k4 : t.kind = 4
  · exact ddlOk_impl_4 x t w hx hf k4
  by_cases k5 : t.kind = 5
  · exact ddlOk_impl_5 x t w hx hf k5
  exact ddlOk_impl_0 x t w hx hf ⟨k1, k2, k3, k4, k5⟩
end Go.Proofs.YtiijahoheajppaaGreat
