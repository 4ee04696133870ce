/- Whether a table is right: the given TableOk. -/
import Derived.Test.YtiijahoheajppaaTab
namespace Go.Proofs.Ytiijahoheajppaa
open Go.ChangeShapes Go.WideShapes Go.ChangeAt Go.RowKit

/-- The place of the key ahead of a key; -1 ahead of the first. -/
def lastAt (cs : List Cl) (ks : List ByteArray) : Nat → Int
  | 0 => -1
  | j + 1 => match ks[j]? with | some k => colAt cs k | .none => -1
/-- A key is a column's name, behind the last, the column not null. -/
def keyGood (cs : List Cl) (ks : List ByteArray) (j : Nat) (h : j < ks.length) : Prop := lastAt cs ks j < colAt cs ks[j] ∧ ∃ g : (colAt cs ks[j]).toNat < cs.length, cs[(colAt cs ks[j]).toNat].nt = true
/-- A table is right. -/
def Tc.right (t : Tc) : Prop := wordB t.name = true ∧ 1 ≤ t.cols.length ∧ t.cols.length ≤ 8 ∧ 1 ≤ t.keys.length ∧ (∀ i (h : i < t.cols.length), t.cols[i].ok = true) ∧ (∀ i (h : i < t.cols.length), colAt t.cols t.cols[i].name = i) ∧ ∀ j (h : j < t.keys.length), keyGood t.cols t.keys j h
theorem colAt_lt (cs : List Cl) (s : ByteArray) : -1 ≤ colAt cs s ∧ colAt cs s < cs.length := by
  unfold colAt
  cases hf : cs.findIdx? (fun c => decide (c.name = s)) with
  | none => simp only []; omega
  | some i =>
    obtain ⟨hi, _⟩ := List.findIdx?_eq_some_iff_getElem.1 hf
    simp only []; omega
theorem lastAt_ge (cs : List Cl) (ks : List ByteArray) (j : Nat) : -1 ≤ lastAt cs ks j := by
  cases j with
  | zero => rw [lastAt]; omega
  | succ j =>
    rw [lastAt]
    cases ks[j]? with
    | none => simp
    | some k => exact (colAt_lt cs k).1
theorem lastAt_succ {cs : List Cl} {ks : List ByteArray} {j : Nat} (h : j < ks.length) : lastAt cs ks (j + 1) = colAt cs ks[j] := by
  rw [lastAt, List.getElem?_eq_getElem h]

set_option maxRecDepth 100000 in
set_option maxHeartbeats 4000000 in
/-- spec.TableOk -/
theorem tableOk_spec (x : Array Value) (t : Tc) (w : World) (hx : TabV w x t) (hf : t.fit) :
    Calls Try.prog 29 #[.agg x] w fun e w' => ∃ q : Bool, e = .returned (.bool q) ∧ (q = true ↔ t.right) ∧ Below w.heap.size w w' := by
  obtain ⟨a, p, o, q, rfl, hx, hc, hk⟩ := hx.lit
  have hcap : t.cols.length ≤ 9223372036854775807 ∧ t.keys.length ≤ 9223372036854775807 := by
    obtain ⟨_, _, e, h1, h2, _⟩ := hc
    obtain ⟨_, _, e', h1', h2', _⟩ := hk
    unfold maxLen at h2 h2'
    omega
  obtain ⟨hl1, hl2⟩ := hcap
  have HW : Hid (∀ w : World, Calls Try.prog 56 #[.string t.name] w fun e w' => e = .returned (.bool (wordB t.name)) ∧ w' = w) := fun w => word_spec t.name w hf.1
  have HC : Hid (ColsV w (.slice a t.cols.length p) t.cols) := hc
  have HK : Hid (StrsV w (.slice o t.keys.length q) t.keys) := hk
  have HF : Hid t.fit := hf
  have HL := Loc.new w #[.string t.name, .slice a t.cols.length p, .slice o t.keys.length q] 32
  have HR : Hid (t.right ↔ (wordB t.name = true ∧ 1 ≤ t.cols.length ∧ t.cols.length ≤ 8 ∧ 1 ≤ t.keys.length ∧ (∀ i (h : i < t.cols.length), t.cols[i].ok = true) ∧ (∀ i (h : i < t.cols.length), colAt t.cols t.cols[i].name = i) ∧ ∀ j (h : j < t.keys.length), keyGood t.cols t.keys j h)) := Iff.rfl
  clear hx hc hk hf
  generalize t.right = R at HR ⊢
  obtain ⟨name, cs, ks⟩ := t
  simp only at *
  cases hw : wordB name
  · rw [hw] at HW HR
    clear hw
    go_enter Try.func29, Try.ntmps29
    go_wp2_with (go_at_call 56; refine (HW.out _).mono ?_; rintro e w' ⟨rfl, hw⟩; subst w')
    go_ret
    exact ⟨_, rfl, ⟨fun h => by simp at h, fun h => by have := (HR.out.1 h).1; simp at this⟩, (by repeat (first | with_reducible exact Below.refl _ _ | with_reducible assumption | with_reducible refine ch_alloc ?_ _ | with_reducible refine Below.drew ?_ | with_reducible refine below_draws _ ?_ | (with_reducible refine Below.setCell ?_ ?_ _; rotate_left; focus (first | with_reducible exact Nat.le_refl _ | (simp; done) | (simp; omega) | (simp at *; omega))) | with_reducible refine ch_trans ?_ (by with_reducible assumption)))⟩
  rw [hw] at HW HR
  clear hw
  by_cases h1 : cs.length < 1
  · have e1 : decide ((cs.length : Int) < 1) = true := by simp; omega
    go_enter Try.func29, Try.ntmps29
    go_wp2_with (go_at_call 56; refine (HW.out _).mono ?_; rintro e w' ⟨rfl, hw⟩; subst w')
    go_ret
    exact ⟨_, rfl, ⟨fun h => by simp at h, fun h => by have := (HR.out.1 h).2.1; omega⟩, (by repeat (first | with_reducible exact Below.refl _ _ | with_reducible assumption | with_reducible refine ch_alloc ?_ _ | with_reducible refine Below.drew ?_ | with_reducible refine below_draws _ ?_ | (with_reducible refine Below.setCell ?_ ?_ _; rotate_left; focus (first | with_reducible exact Nat.le_refl _ | (simp; done) | (simp; omega) | (simp at *; omega))) | with_reducible refine ch_trans ?_ (by with_reducible assumption)))⟩
  have e1 : decide ((cs.length : Int) < 1) = false := by simp; omega
  by_cases h8 : 8 < cs.length
  · have e8 : decide ((8 : Int) < cs.length) = true := by simp; omega
    go_enter Try.func29, Try.ntmps29
    go_wp2_with (go_at_call 56; refine (HW.out _).mono ?_; rintro e w' ⟨rfl, hw⟩; subst w')
    go_ret
    exact ⟨_, rfl, ⟨fun h => by simp at h, fun h => by have := (HR.out.1 h).2.2.1; omega⟩, (by repeat (first | with_reducible exact Below.refl _ _ | with_reducible assumption | with_reducible refine ch_alloc ?_ _ | with_reducible refine Below.drew ?_ | with_reducible refine below_draws _ ?_ | (with_reducible refine Below.setCell ?_ ?_ _; rotate_left; focus (first | with_reducible exact Nat.le_refl _ | (simp; done) | (simp; omega) | (simp at *; omega))) | with_reducible refine ch_trans ?_ (by with_reducible assumption)))⟩
  have e8 : decide ((8 : Int) < cs.length) = false := by simp; omega
  by_cases hk1 : ks.length < 1
  · have ek : decide ((ks.length : Int) < 1) = true := by simp; omega
    go_enter Try.func29, Try.ntmps29
    go_wp2_with (go_at_call 56; refine (HW.out _).mono ?_; rintro e w' ⟨rfl, hw⟩; subst w')
    go_ret
    exact ⟨_, rfl, ⟨fun h => by simp at h, fun h => by have := (HR.out.1 h).2.2.2.1; omega⟩, (by repeat (first | with_reducible exact Below.refl _ _ | with_reducible assumption | with_reducible refine ch_alloc ?_ _ | with_reducible refine Below.drew ?_ | with_reducible refine below_draws _ ?_ | (with_reducible refine Below.setCell ?_ ?_ _; rotate_left; focus (first | with_reducible exact Nat.le_refl _ | (simp; done) | (simp; omega) | (simp at *; omega))) | with_reducible refine ch_trans ?_ (by with_reducible assumption)))⟩
  have ek : decide ((ks.length : Int) < 1) = false := by simp; omega
  go_enter Try.func29, Try.ntmps29
  go_wp2_with (go_at_call 56; refine (HW.out _).mono ?_; rintro e w' ⟨rfl, hw⟩; subst w')
  go_loopw [34] (fun i wr => ∃ k : Nat, k ≤ cs.length ∧ i = .int .i64 k ∧ Below (w.heap.size + 1) (w.alloc (.cells #[.string name, .slice a cs.length p, .slice o ks.length q] 32)) wr ∧ Hid (∀ i (h : i < cs.length), i < k → cs[i].ok = true ∧ colAt cs cs[i].name = i)) (fun i _ => cs.length - (intOf i).toNat)
  case atStart => exact ⟨0, Nat.zero_le _, rfl, Below.refl _ _, fun i h hi => by omega⟩
  case round =>
    obtain ⟨k, hk, rfl, hb0, HN⟩ := hrel
    have hb1 : Below (w.alloc (.cells #[.string name, .slice a cs.length p, .slice o ks.length q] 32)).heap.size (w.alloc (.cells #[.string name, .slice a cs.length p, .slice o ks.length q] 32)) wr := by simpa using hb0
    have hb : Below w.heap.size w wr := ch_trans (ch_alloc (Below.refl _ _) _) hb1
    have HL1 := HL.on hb1
    obtain ⟨l0, l1, l2⟩ := HL1.three
    by_cases hlt : k < cs.length
    · have hlti : (k : Int) < cs.length := by omega
      obtain ⟨b, off, rfl, c0, c1, c2, c3, c4, c5, c6⟩ : ∃ b off, a = some ⟨b, off, none⟩ ∧ _ := by
        obtain ⟨a', cap', e, _, _, hr⟩ := HC.out.on hb
        cases e
        exact hr.cols k hlt
      have HS : Hid (∀ w : World, Calls Try.prog 57 #[cs[k].v] w fun e w' => e = .returned (.bool cs[k].ok) ∧ Below w.heap.size w w') := fun w => colOk_spec cs[k] w (HF.out.2.1 _ (List.getElem_mem hlt)).1
      have HM := Loc.new wr cs[k].cells 60
      cases hok : cs[k].ok
      · have HB : Hid (¬ R) := fun h => by have := (HR.out.1 h).2.2.2.2.1 k hlt; rw [hok] at this; cases this
        rw [hok] at HS
        clear hok
        go_wp2_with (go_at_call 57; refine (HS.out _).mono ?_; rintro e w1 ⟨rfl, b1⟩)
        go_ret
        exact ⟨_, rfl, ⟨fun h => by simp at h, fun h => absurd h HB.out⟩, (by repeat (first | with_reducible exact Below.refl _ _ | with_reducible assumption | with_reducible refine ch_alloc ?_ _ | with_reducible refine Below.drew ?_ | with_reducible refine below_draws _ ?_ | (with_reducible refine Below.setCell ?_ ?_ _; rotate_left; focus (first | with_reducible exact Nat.le_refl _ | (simp; done) | (simp; omega) | (simp at *; omega))) | with_reducible refine ch_trans ?_ (by with_reducible assumption)))⟩
      rw [hok] at HS
      have HOK : Hid (cs[k].ok = true) := hok
      clear hok
      go_wp2_with fail
      refine (HS.out _).mono ?_
      rintro e w1 ⟨rfl, b1⟩
      have HL2 := HL1.on (w' := w1) (by repeat (first | with_reducible exact Below.refl _ _ | with_reducible assumption | with_reducible refine ch_alloc ?_ _ | with_reducible refine Below.drew ?_ | with_reducible refine below_draws _ ?_ | (with_reducible refine Below.setCell ?_ ?_ _; rotate_left; focus (first | with_reducible exact Nat.le_refl _ | (simp; done) | (simp; omega) | (simp at *; omega))) | with_reducible refine ch_trans ?_ (by with_reducible assumption)))
      clear l0 l1 l2
      obtain ⟨l0, l1, l2⟩ := HL2.three
      have HM1 := HM.on b1
      obtain ⟨m0, m1, m2, m3, m4, m5, m6⟩ := HM1.seven
      by_cases hat : colAt cs cs[k].name = k
      · have hat' : (colAt cs cs[k].name == (k : Int)) = true := by simpa using hat
        have HN' : Hid (∀ i (h : i < cs.length), i < k + 1 → cs[i].ok = true ∧ colAt cs cs[i].name = i) := fun i h hi => by
          by_cases e : i = k
          · subst e; exact ⟨HOK.out, hat⟩
          · exact HN.out i h (by omega)
        clear hat
        go_wp2_with (go_at_call 32; refine (colAt_spec _ _ _ cs _ _ (HC.out.on (by repeat (first | with_reducible exact Below.refl _ _ | with_reducible assumption | with_reducible refine ch_alloc ?_ _ | with_reducible refine Below.drew ?_ | with_reducible refine below_draws _ ?_ | (with_reducible refine Below.setCell ?_ ?_ _; rotate_left; focus (first | with_reducible exact Nat.le_refl _ | (simp; done) | (simp; omega) | (simp at *; omega))) | with_reducible refine ch_trans ?_ (by with_reducible assumption))))).mono ?_; rintro e w2 ⟨rfl, b2⟩)
        go_round
        case rel => exact ⟨k + 1, by omega, by go_num, by
          have : Below (w.alloc (.cells #[.string name, .slice (some ⟨b, off, none⟩) cs.length p, .slice o ks.length q] 32)).heap.size (w.alloc (.cells #[.string name, .slice (some ⟨b, off, none⟩) cs.length p, .slice o ks.length q] 32)) w2 := (by repeat (first | with_reducible exact Below.refl _ _ | with_reducible assumption | with_reducible refine ch_alloc ?_ _ | with_reducible refine Below.drew ?_ | with_reducible refine below_draws _ ?_ | (with_reducible refine Below.setCell ?_ ?_ _; rotate_left; focus (first | with_reducible exact Nat.le_refl _ | (simp; done) | (simp; omega) | (simp at *; omega))) | with_reducible refine ch_trans ?_ (by with_reducible assumption)))
          simpa using this, HN'⟩
        case measure => simp [intOf]; omega
      · have hat' : (colAt cs cs[k].name == (k : Int)) = false := by simpa using hat
        have HB : Hid (¬ R) := fun h => hat ((HR.out.1 h).2.2.2.2.2.1 k hlt)
        clear hat
        go_wp2_with (go_at_call 32; refine (colAt_spec _ _ _ cs _ _ (HC.out.on (by repeat (first | with_reducible exact Below.refl _ _ | with_reducible assumption | with_reducible refine ch_alloc ?_ _ | with_reducible refine Below.drew ?_ | with_reducible refine below_draws _ ?_ | (with_reducible refine Below.setCell ?_ ?_ _; rotate_left; focus (first | with_reducible exact Nat.le_refl _ | (simp; done) | (simp; omega) | (simp at *; omega))) | with_reducible refine ch_trans ?_ (by with_reducible assumption))))).mono ?_; rintro e w2 ⟨rfl, b2⟩)
        go_ret
        exact ⟨_, rfl, ⟨fun h => by simp at h, fun h => absurd h HB.out⟩, (by repeat (first | with_reducible exact Below.refl _ _ | with_reducible assumption | with_reducible refine ch_alloc ?_ _ | with_reducible refine Below.drew ?_ | with_reducible refine below_draws _ ?_ | (with_reducible refine Below.setCell ?_ ?_ _; rotate_left; focus (first | with_reducible exact Nat.le_refl _ | (simp; done) | (simp; omega) | (simp at *; omega))) | with_reducible refine ch_trans ?_ (by with_reducible assumption)))⟩
    · have hlti : (cs.length : Int) ≤ k := by omega
      have HA : Hid ((∀ i (h : i < cs.length), cs[i].ok = true) ∧ ∀ i (h : i < cs.length), colAt cs cs[i].name = i) := ⟨fun i h => (HN.out i h (by omega)).1, fun i h => (HN.out i h (by omega)).2⟩
      go_wp2_with fail
      clear HN l0 l1 l2
      go_loopw [5, 54] (fun v i wq => ∃ j : Nat, j ≤ ks.length ∧ i = .int .i64 j ∧ v = .int .i64 (lastAt cs ks j) ∧ Below wr.heap.size wr wq ∧ Hid (∀ i (h : i < ks.length), i < j → keyGood cs ks i h)) (fun _ i _ => ks.length - (intOf i).toNat)
      case atStart => exact ⟨0, Nat.zero_le _, rfl, rfl, Below.refl _ _, fun i h hi => by omega⟩
      case round =>
        obtain ⟨j, hj, rfl, rfl, hbq, HN⟩ := hrel
        have HL2 := HL1.on hbq
        obtain ⟨l0, l1, l2⟩ := HL2.three
        have hbw : Below w.heap.size w wr := ch_trans hb hbq
        by_cases hjt : j < ks.length
        · have hjti : (j : Int) < ks.length := by omega
          obtain ⟨b', off', rfl, d0⟩ : ∃ b off, o = some ⟨b, off, none⟩ ∧ _ := by
            obtain ⟨a', cap', e, _, _, hr⟩ := HK.out.on hbw
            cases e
            exact hr.strs j hjt
          have HT : Hid (∀ u : World, ColsV u (.slice a cs.length p) cs → Calls Try.prog 32 #[.agg #[.string name, .slice a cs.length p, .slice (some ⟨b', off', none⟩) ks.length q], .string ks[j]] u fun e w' => e = .returned (.int .i64 (colAt cs ks[j])) ∧ Below u.heap.size u w') := fun u hu => colAt_spec _ _ _ cs _ u hu
          have HG : Hid (keyGood cs ks j hjt ↔ (lastAt cs ks j < colAt cs ks[j] ∧ ∃ g : (colAt cs ks[j]).toNat < cs.length, cs[(colAt cs ks[j]).toNat].nt = true)) := Iff.rfl
          have HLS : Hid (lastAt cs ks (j + 1) = colAt cs ks[j]) := lastAt_succ hjt
          have hge := lastAt_ge cs ks j
          have hcl := (colAt_lt cs ks[j]).2
          generalize colAt cs ks[j] = v at HT HG HLS hcl
          by_cases hle : v ≤ lastAt cs ks j
          · have HB : Hid (¬ R) := fun h => by have := (HG.out.1 ((HR.out.1 h).2.2.2.2.2.2 j hjt)).1; omega
            have hle' : decide (v ≤ lastAt cs ks j) = true := by simpa using hle
            go_wp2_with (go_at_call 32; refine (HT.out _ (HC.out.on (by repeat (first | with_reducible exact Below.refl _ _ | with_reducible assumption | with_reducible refine ch_alloc ?_ _ | with_reducible refine Below.drew ?_ | with_reducible refine below_draws _ ?_ | (with_reducible refine Below.setCell ?_ ?_ _; rotate_left; focus (first | with_reducible exact Nat.le_refl _ | (simp; done) | (simp; omega) | (simp at *; omega))) | with_reducible refine ch_trans ?_ (by with_reducible assumption))))).mono ?_; rintro e w2 ⟨rfl, b2⟩; have HL3 := HL2.on b2; clear l0 l1 l2; obtain ⟨l0, l1, l2⟩ := HL3.three)
            go_ret
            exact ⟨_, rfl, ⟨fun h => by simp at h, fun h => absurd h HB.out⟩, (by repeat (first | with_reducible exact Below.refl _ _ | with_reducible assumption | with_reducible refine ch_alloc ?_ _ | with_reducible refine Below.drew ?_ | with_reducible refine below_draws _ ?_ | (with_reducible refine Below.setCell ?_ ?_ _; rotate_left; focus (first | with_reducible exact Nat.le_refl _ | (simp; done) | (simp; omega) | (simp at *; omega))) | with_reducible refine ch_trans ?_ (by with_reducible assumption)))⟩
          · have hle' : decide (v ≤ lastAt cs ks j) = false := by simpa using hle
            obtain ⟨n, rfl⟩ : ∃ n : Nat, v = n := ⟨v.toNat, by omega⟩
            have hn : n < cs.length := by omega
            have hni : (n : Int) < cs.length := by omega
            rw [Int.toNat_natCast] at HG
            obtain ⟨b, off, rfl, c0, c1, c2, c3, c4, c5, c6⟩ : ∃ b off, a = some ⟨b, off, none⟩ ∧ _ := by
              obtain ⟨a', cap', e, _, _, hr⟩ := HC.out.on hbw
              cases e
              exact hr.cols n hn
            clear c0 c1 c3 c4 c5 c6
            cases hnt : cs[n].nt
            · have HB : Hid (¬ R) := fun h => by
                obtain ⟨_, _, h2⟩ := HG.out.1 ((HR.out.1 h).2.2.2.2.2.2 j hjt)
                rw [hnt] at h2; cases h2
              rw [hnt] at c2
              go_wp2_with (go_at_call 32; refine (HT.out _ (HC.out.on (by repeat (first | with_reducible exact Below.refl _ _ | with_reducible assumption | with_reducible refine ch_alloc ?_ _ | with_reducible refine Below.drew ?_ | with_reducible refine below_draws _ ?_ | (with_reducible refine Below.setCell ?_ ?_ _; rotate_left; focus (first | with_reducible exact Nat.le_refl _ | (simp; done) | (simp; omega) | (simp at *; omega))) | with_reducible refine ch_trans ?_ (by with_reducible assumption))))).mono ?_; rintro e w2 ⟨rfl, b2⟩; have HL3 := HL2.on b2; clear l0 l1 l2; obtain ⟨l0, l1, l2⟩ := HL3.three; have g2 := cell_on c2 b2)
              go_ret
              exact ⟨_, rfl, ⟨fun h => by simp at h, fun h => absurd h HB.out⟩, (by repeat (first | with_reducible exact Below.refl _ _ | with_reducible assumption | with_reducible refine ch_alloc ?_ _ | with_reducible refine Below.drew ?_ | with_reducible refine below_draws _ ?_ | (with_reducible refine Below.setCell ?_ ?_ _; rotate_left; focus (first | with_reducible exact Nat.le_refl _ | (simp; done) | (simp; omega) | (simp at *; omega))) | with_reducible refine ch_trans ?_ (by with_reducible assumption)))⟩
            · have HN' : Hid (∀ i (h : i < ks.length), i < j + 1 → keyGood cs ks i h) := fun i h hi => by
                by_cases e : i = j
                · subst e; exact HG.out.2 ⟨by omega, hn, hnt⟩
                · exact HN.out i h (by omega)
              rw [hnt] at c2
              go_wp2_with (go_at_call 32; refine (HT.out _ (HC.out.on (by repeat (first | with_reducible exact Below.refl _ _ | with_reducible assumption | with_reducible refine ch_alloc ?_ _ | with_reducible refine Below.drew ?_ | with_reducible refine below_draws _ ?_ | (with_reducible refine Below.setCell ?_ ?_ _; rotate_left; focus (first | with_reducible exact Nat.le_refl _ | (simp; done) | (simp; omega) | (simp at *; omega))) | with_reducible refine ch_trans ?_ (by with_reducible assumption))))).mono ?_; rintro e w2 ⟨rfl, b2⟩; have HL3 := HL2.on b2; clear l0 l1 l2; obtain ⟨l0, l1, l2⟩ := HL3.three; have g2 := cell_on c2 b2)
              go_round
              case rel => exact ⟨j + 1, by omega, by go_num, by rw [HLS.out], (by repeat (first | with_reducible exact Below.refl _ _ | with_reducible assumption | with_reducible refine ch_alloc ?_ _ | with_reducible refine Below.drew ?_ | with_reducible refine below_draws _ ?_ | (with_reducible refine Below.setCell ?_ ?_ _; rotate_left; focus (first | with_reducible exact Nat.le_refl _ | (simp; done) | (simp; omega) | (simp at *; omega))) | with_reducible refine ch_trans ?_ (by with_reducible assumption))), HN'⟩
              case measure => simp [intOf]; omega
        · have hjti : (ks.length : Int) ≤ j := by omega
          have HY : Hid R := HR.out.2 ⟨by trivial, by omega, by omega, by omega, HA.out.1, HA.out.2, fun i h => HN.out i h (by omega)⟩
          go_wp2
          go_ret
          exact ⟨_, rfl, ⟨fun _ => HY.out, fun _ => rfl⟩, (by repeat (first | with_reducible exact Below.refl _ _ | with_reducible assumption | with_reducible refine ch_alloc ?_ _ | with_reducible refine Below.drew ?_ | with_reducible refine below_draws _ ?_ | (with_reducible refine Below.setCell ?_ ?_ _; rotate_left; focus (first | with_reducible exact Nat.le_refl _ | (simp; done) | (simp; omega) | (simp at *; omega))) | with_reducible refine ch_trans ?_ (by with_reducible assumption)))⟩
end Go.Proofs.Ytiijahoheajppaa
