/- Whether a table is right: the landed TableOk. -/
import Derived.Test.YtiijahoheajppaaTbOkS
import Derived.Test.YtiijahoheajppaaColOkI
import Derived.Test.YtiijahoheajppaaPl
namespace Go.Proofs.Ytiijahoheajppaa
open Go.ChangeShapes Go.WideShapes Go.ChangeAt Go.RowKit

theorem colAt_first {cs : List Cl} {s : ByteArray} {k : Nat} (h : colAt cs s = k) : ∃ hk : k < cs.length, cs[k].name = s ∧ ∀ j (h : j < cs.length), j < k → cs[j].name ≠ s := by
  unfold colAt at h
  cases hf : cs.findIdx? (fun c => decide (c.name = s)) with
  | none => rw [hf] at h; simp only [] at h; omega
  | some i =>
    rw [hf] at h
    simp only [] at h
    obtain rfl : i = k := by omega
    obtain ⟨hi, he, hn⟩ := List.findIdx?_eq_some_iff_getElem.1 hf
    exact ⟨hi, by simpa using he, fun j h hj => by simpa using hn j hj⟩
theorem firsts_not {cs : List Cl} {s : ByteArray} {k : Nat} (h : (firsts cs k).find? (fun p => decide (p.2.name = s)) = .none) : ∀ j (h : j < cs.length), j < k → cs[j].name ≠ s := by
  intro j hj hjk e
  cases hf : cs.findIdx? (fun c => decide (c.name = s)) with
  | none => have := List.findIdx?_eq_none_iff.1 hf _ (List.getElem_mem hj); simp [e] at this
  | some i =>
    obtain ⟨hi, he, hn⟩ := List.findIdx?_eq_some_iff_getElem.1 hf
    by_cases hik : i < k
    · rw [firsts_some hi (by simpa using he) (fun j h hj => by simpa using hn j hj) k hik] at h; cases h
    · have := hn j (by omega); simp [e] at this
theorem firsts_le (cs : List Cl) : ∀ k, (firsts cs k).length ≤ k
  | 0 => by simp [firsts]
  | k + 1 => by
    have ih := firsts_le cs k
    rw [firsts]
    split
    · split
      · omega
      · simp; omega
    · omega
theorem firsts_full (cs : List Cl) : ∀ k, k ≤ cs.length → ((firsts cs k).length = k ↔ ∀ i (h : i < cs.length), i < k → colAt cs cs[i].name = i)
  | 0, _ => ⟨fun _ i h hi => by omega, fun _ => rfl⟩
  | k + 1, hk => by
    have hlt : k < cs.length := by omega
    have ih := firsts_full cs k (by omega)
    cases hq : (firsts cs k).any (fun p => decide (p.2.name = cs[k].name))
    · have hd := firsts_not (firsts_any.1 hq)
      rw [firsts_add hlt hq]
      constructor
      · intro h i hi hik
        by_cases e : i = k
        · subst e; exact colAt_some hi rfl hd
        · exact ih.1 (by simpa using h) i hi (by omega)
      · intro h
        have := ih.2 fun i hi hik => h i hi (by omega)
        simp [this]
    · obtain ⟨q, hqf⟩ := firsts_any.2 hq
      obtain ⟨i, hi, hik, rfl⟩ := firsts_mem k q (List.mem_of_find?_eq_some hqf)
      have hn : cs[i].name = cs[k].name := by
        have := @List.find?_some _ (fun p : Int × Cl => decide (p.2.name = cs[k].name)) _ _ hqf
        simpa using this
      rw [firsts_skip hlt hq]
      constructor
      · intro h; have := firsts_le cs k; omega
      · intro h
        obtain ⟨_, _, h3⟩ := colAt_first (h k hlt (by omega))
        exact absurd hn (h3 i hi hik)

set_option maxRecDepth 100000 in
set_option maxHeartbeats 2000000 in
/-- keysOk -/
theorem keysOk_any (b n : Nat) (kv : Value) (cs : List Cl) (ks : List ByteArray) (w : World) (hm : MapIs Try.prog 9 w b n (plist cs cs.length)) (hk : StrsV w kv ks) (hf : ∀ s ∈ ks, s.size ≤ maxLen) :
    Calls Try.prog 62 #[.map (some b), kv] w fun e w' => ∃ q : Bool, e = .returned (.bool q) ∧ (q = true ↔ (1 ≤ ks.length ∧ ∀ j (h : j < ks.length), keyGood cs ks j h)) ∧ Below w.heap.size w w' := by
  obtain ⟨a, cap, rfl, hl, hm', hk⟩ := hk
  unfold maxLen at hm'
  have HC : Hid (RowAt w a 1 (ks.map strX)) := hk
  have HM : Hid (MapIs Try.prog 9 w b n (plist cs cs.length)) := hm
  have HF : Hid (∀ s ∈ ks, s.size ≤ maxLen) := hf
  clear hk hm hf
  go_enter Try.func62, Try.ntmps62
  go_wp2
  go_loopw [5, 12] (fun v i wr => ∃ j : Nat, j ≤ ks.length ∧ i = .int .i64 j ∧ v = .int .i64 (lastAt cs ks j) ∧ Below w.heap.size w wr ∧ Hid (∀ i (h : i < ks.length), i < j → keyGood cs ks i h)) (fun _ i _ => ks.length - (intOf i).toNat)
  case atStart => exact ⟨0, Nat.zero_le _, rfl, rfl, Below.refl _ _, fun i h hi => by omega⟩
  case round =>
    obtain ⟨j, hj, rfl, rfl, hb, HN⟩ := hrel
    by_cases hjt : j < ks.length
    · have hjti : (j : Int) < ks.length := by omega
      obtain ⟨b', off', rfl, d0⟩ := (HC.out.on hb).strs j hjt
      have HG : Hid (keyGood cs ks j hjt ↔ (lastAt cs ks j < colAt cs ks[j] ∧ ∃ g : (colAt cs ks[j]).toNat < cs.length, cs[(colAt cs ks[j]).toNat].nt = true)) := Iff.rfl
      have HLS : Hid (lastAt cs ks (j + 1) = colAt cs ks[j]) := lastAt_succ hjt
      have hge := lastAt_ge cs ks j
      have hfd := plist_find cs cs.length ks[j]
      have hM := HM.out.on hb HM.out.lt
      have hsz := HF.out _ (List.getElem_mem hjt)
      rcases colAt_firsts cs ks[j] with ⟨h1, h2⟩ | ⟨i, hi, h1, h2⟩
      · rw [h1] at hfd
        have hlook := hM.look_no Try.underlying9 Try.underlying90 (zeroP _) hsz hfd
        have HB : Hid (¬ keyGood cs ks j hjt) := fun h => by have := (HG.out.1 h).1; omega
        clear hfd hM h1 h2 hsz
        go_wp2
        go_ret
        exact ⟨_, rfl, ⟨fun h => by simp at h, fun h => absurd (h.2 j hjt) HB.out⟩, (by repeat (first | with_reducible exact Below.refl _ _ | with_reducible assumption | with_reducible refine ch_alloc ?_ _ | with_reducible refine Below.drew ?_ | with_reducible refine below_draws _ ?_ | (with_reducible refine Below.setCell ?_ ?_ _; rotate_left; focus (first | with_reducible exact Nat.le_refl _ | (simp; done) | (simp; omega) | (simp at *; omega))) | with_reducible refine ch_trans ?_ (by with_reducible assumption)))⟩
      · rw [h1] at hfd
        have hlook : _ = Result.ok (Value.tuple #[.agg #[.int .i64 i, .string cs[i].name, .int .i64 cs[i].ty, .bool cs[i].nt, .bool cs[i].has, .int .i64 cs[i].dt, .int .i64 cs[i].dn, .string cs[i].ds], .bool true]) _ := hM.look_yes Try.underlying9 Try.underlying90 (zeroP _) hsz hfd
        rw [h2] at HG HLS
        rw [Int.toNat_natCast] at HG
        clear hfd hM h1 h2 hsz
        cases hnt : cs[i].nt
        · have HB : Hid (¬ keyGood cs ks j hjt) := fun h => by obtain ⟨_, _, h2⟩ := HG.out.1 h; rw [hnt] at h2; cases h2
          rw [hnt] at hlook
          go_wp2
          go_ret
          exact ⟨_, rfl, ⟨fun h => by simp at h, fun h => absurd (h.2 j hjt) HB.out⟩, (by repeat (first | with_reducible exact Below.refl _ _ | with_reducible assumption | with_reducible refine ch_alloc ?_ _ | with_reducible refine Below.drew ?_ | with_reducible refine below_draws _ ?_ | (with_reducible refine Below.setCell ?_ ?_ _; rotate_left; focus (first | with_reducible exact Nat.le_refl _ | (simp; done) | (simp; omega) | (simp at *; omega))) | with_reducible refine ch_trans ?_ (by with_reducible assumption)))⟩
        rw [hnt] at hlook
        by_cases hle : (i : Int) ≤ lastAt cs ks j
        · have HB : Hid (¬ keyGood cs ks j hjt) := fun h => by have := (HG.out.1 h).1; omega
          have hle' : decide ((i : Int) ≤ lastAt cs ks j) = true := by simpa using hle
          go_wp2
          go_ret
          exact ⟨_, rfl, ⟨fun h => by simp at h, fun h => absurd (h.2 j hjt) HB.out⟩, (by repeat (first | with_reducible exact Below.refl _ _ | with_reducible assumption | with_reducible refine ch_alloc ?_ _ | with_reducible refine Below.drew ?_ | with_reducible refine below_draws _ ?_ | (with_reducible refine Below.setCell ?_ ?_ _; rotate_left; focus (first | with_reducible exact Nat.le_refl _ | (simp; done) | (simp; omega) | (simp at *; omega))) | with_reducible refine ch_trans ?_ (by with_reducible assumption)))⟩
        · have hle' : decide ((i : Int) ≤ lastAt cs ks j) = false := by simpa using hle
          have HN' : Hid (∀ i (h : i < ks.length), i < j + 1 → keyGood cs ks i h) := fun i' h hi' => by
            by_cases e : i' = j
            · subst e; exact HG.out.2 ⟨by omega, hi, hnt⟩
            · exact HN.out i' h (by omega)
          go_wp2
          go_round
          case rel => exact ⟨j + 1, by omega, by go_num, by rw [HLS.out], (by repeat (first | with_reducible exact Below.refl _ _ | with_reducible assumption | with_reducible refine ch_alloc ?_ _ | with_reducible refine Below.drew ?_ | with_reducible refine below_draws _ ?_ | (with_reducible refine Below.setCell ?_ ?_ _; rotate_left; focus (first | with_reducible exact Nat.le_refl _ | (simp; done) | (simp; omega) | (simp at *; omega))) | with_reducible refine ch_trans ?_ (by with_reducible assumption))), HN'⟩
          case measure => simp [intOf]; omega
    · have hjti : (ks.length : Int) ≤ j := by omega
      have HY : Hid ((1 ≤ ks.length ∧ ∀ j (h : j < ks.length), keyGood cs ks j h) ↔ 0 < (ks.length : Int)) := ⟨fun h => by have := h.1; omega, fun h => ⟨by omega, fun i h => HN.out i h (by omega)⟩⟩
      go_wp2
      go_ret
      exact ⟨_, rfl, by rw [HY.out]; simp, (by repeat (first | with_reducible exact Below.refl _ _ | with_reducible assumption | with_reducible refine ch_alloc ?_ _ | with_reducible refine Below.drew ?_ | with_reducible refine below_draws _ ?_ | (with_reducible refine Below.setCell ?_ ?_ _; rotate_left; focus (first | with_reducible exact Nat.le_refl _ | (simp; done) | (simp; omega) | (simp at *; omega))) | with_reducible refine ch_trans ?_ (by with_reducible assumption)))⟩

set_option maxRecDepth 100000 in
set_option maxHeartbeats 4000000 in
/-- impl.TableOk -/
theorem tableOk_impl (x : Array Value) (t : Tc) (w : World) (hx : TabV w x t) (hf : t.fit) :
    Calls Try.prog 36 #[.agg x] w fun e w' => ∃ q : Bool, e = .returned (.bool q) ∧ (q = true ↔ t.right) ∧ Below w.heap.size w w' := by
  obtain ⟨a, p, o, q, rfl, hx, hc, hk⟩ := hx.lit
  have hcap : t.cols.length ≤ 9223372036854775807 ∧ t.keys.length ≤ 9223372036854775807 := by
    obtain ⟨_, _, e, h1, h2, _⟩ := hc
    obtain ⟨_, _, e', h1', h2', _⟩ := hk
    unfold maxLen at h2 h2'
    omega
  obtain ⟨hl1, hl2⟩ := hcap
  have HW : Hid (∀ w : World, Calls Try.prog 59 #[.string t.name] w fun e w' => e = .returned (.bool (wordB t.name)) ∧ w' = w) := fun w => word_impl t.name w hf.1
  have HC : Hid (ColsV w (.slice a t.cols.length p) t.cols) := hc
  have HK : Hid (StrsV w (.slice o t.keys.length q) t.keys) := hk
  have HF : Hid t.fit := hf
  have HL := Loc.new w #[.string t.name, .slice a t.cols.length p, .slice o t.keys.length q] 32
  have HR : Hid (t.right ↔ (wordB t.name = true ∧ 1 ≤ t.cols.length ∧ t.cols.length ≤ 8 ∧ 1 ≤ t.keys.length ∧ (∀ i (h : i < t.cols.length), t.cols[i].ok = true) ∧ (∀ i (h : i < t.cols.length), colAt t.cols t.cols[i].name = i) ∧ ∀ j (h : j < t.keys.length), keyGood t.cols t.keys j h)) := Iff.rfl
  clear hx hc hk hf
  generalize t.right = R at HR ⊢
  obtain ⟨name, cs, ks⟩ := t
  simp only at *
  cases hw : wordB name
  · rw [hw] at HW HR
    clear hw
    go_enter Try.func36, Try.ntmps36
    go_wp2_with (go_at_call 59; refine (HW.out _).mono ?_; rintro e w' ⟨rfl, hw⟩; subst w')
    go_ret
    exact ⟨_, rfl, ⟨fun h => by simp at h, fun h => by have := (HR.out.1 h).1; simp at this⟩, (by repeat (first | with_reducible exact Below.refl _ _ | with_reducible assumption | with_reducible refine ch_alloc ?_ _ | with_reducible refine Below.drew ?_ | with_reducible refine below_draws _ ?_ | (with_reducible refine Below.setCell ?_ ?_ _; rotate_left; focus (first | with_reducible exact Nat.le_refl _ | (simp; done) | (simp; omega) | (simp at *; omega))) | with_reducible refine ch_trans ?_ (by with_reducible assumption)))⟩
  rw [hw] at HW HR
  clear hw
  by_cases h8 : 8 < cs.length
  · have e8 : decide ((8 : Int) < cs.length) = true := by simp; omega
    go_enter Try.func36, Try.ntmps36
    go_wp2_with (go_at_call 59; refine (HW.out _).mono ?_; rintro e w' ⟨rfl, hw⟩; subst w')
    go_ret
    exact ⟨_, rfl, ⟨fun h => by simp at h, fun h => by have := (HR.out.1 h).2.2.1; omega⟩, (by repeat (first | with_reducible exact Below.refl _ _ | with_reducible assumption | with_reducible refine ch_alloc ?_ _ | with_reducible refine Below.drew ?_ | with_reducible refine below_draws _ ?_ | (with_reducible refine Below.setCell ?_ ?_ _; rotate_left; focus (first | with_reducible exact Nat.le_refl _ | (simp; done) | (simp; omega) | (simp at *; omega))) | with_reducible refine ch_trans ?_ (by with_reducible assumption)))⟩
  have e8 : decide ((8 : Int) < cs.length) = false := by simp; omega
  go_enter Try.func36, Try.ntmps36
  go_wp2_with (go_at_call 59; refine (HW.out _).mono ?_; rintro e w' ⟨rfl, hw⟩; subst w')
  go_loopw [19] (fun i wr => ∃ k : Nat, k ≤ cs.length ∧ i = .int .i64 k ∧ Below (w.heap.size + 1) (w.alloc (.cells #[.string name, .slice a cs.length p, .slice o ks.length q] 32)) wr ∧ Hid (∀ i (h : i < cs.length), i < k → cs[i].ok = true)) (fun i _ => cs.length - (intOf i).toNat)
  case atStart => exact ⟨0, Nat.zero_le _, rfl, Below.refl _ _, fun i h hi => by omega⟩
  case round =>
    obtain ⟨k, hk, rfl, hb0, HN⟩ := hrel
    have hb1 : Below (w.alloc (.cells #[.string name, .slice a cs.length p, .slice o ks.length q] 32)).heap.size (w.alloc (.cells #[.string name, .slice a cs.length p, .slice o ks.length q] 32)) wr := by simpa using hb0
    have hb : Below w.heap.size w wr := ch_trans (ch_alloc (Below.refl _ _) _) hb1
    have HL1 := HL.on hb1
    obtain ⟨l0, l1, l2⟩ := HL1.three
    by_cases hlt : k < cs.length
    · have hlti : (k : Int) < cs.length := by omega
      obtain ⟨b, off, rfl, c0, c1, c2, c3, c4, c5, c6⟩ : ∃ b off, a = some ⟨b, off, none⟩ ∧ _ := by
        obtain ⟨a', cap', e, _, _, hr⟩ := HC.out.on hb
        cases e
        exact hr.cols k hlt
      have HS : Hid (∀ w : World, Calls Try.prog 60 #[cs[k].v] w fun e w' => e = .returned (.bool cs[k].ok) ∧ Below w.heap.size w w') := fun w => colOk_impl cs[k] w (HF.out.2.1 _ (List.getElem_mem hlt)).1
      cases hok : cs[k].ok
      · have HB : Hid (¬ R) := fun h => by have := (HR.out.1 h).2.2.2.2.1 k hlt; rw [hok] at this; cases this
        rw [hok] at HS
        clear hok
        go_wp2_with (go_at_call 60; refine (HS.out _).mono ?_; rintro e w1 ⟨rfl, b1⟩)
        go_ret
        exact ⟨_, rfl, ⟨fun h => by simp at h, fun h => absurd h HB.out⟩, (by repeat (first | with_reducible exact Below.refl _ _ | with_reducible assumption | with_reducible refine ch_alloc ?_ _ | with_reducible refine Below.drew ?_ | with_reducible refine below_draws _ ?_ | (with_reducible refine Below.setCell ?_ ?_ _; rotate_left; focus (first | with_reducible exact Nat.le_refl _ | (simp; done) | (simp; omega) | (simp at *; omega))) | with_reducible refine ch_trans ?_ (by with_reducible assumption)))⟩
      · have HN' : Hid (∀ i (h : i < cs.length), i < k + 1 → cs[i].ok = true) := fun i h hi => by
          by_cases e : i = k
          · subst e; exact hok
          · exact HN.out i h (by omega)
        rw [hok] at HS
        clear hok
        go_wp2_with (go_at_call 60; refine (HS.out _).mono ?_; rintro e w1 ⟨rfl, b1⟩)
        go_round
        case rel => exact ⟨k + 1, by omega, by go_num, by
          have : Below (w.alloc (.cells #[.string name, .slice (some ⟨b, off, none⟩) cs.length p, .slice o ks.length q] 32)).heap.size (w.alloc (.cells #[.string name, .slice (some ⟨b, off, none⟩) cs.length p, .slice o ks.length q] 32)) w1 := (by repeat (first | with_reducible exact Below.refl _ _ | with_reducible assumption | with_reducible refine ch_alloc ?_ _ | with_reducible refine Below.drew ?_ | with_reducible refine below_draws _ ?_ | (with_reducible refine Below.setCell ?_ ?_ _; rotate_left; focus (first | with_reducible exact Nat.le_refl _ | (simp; done) | (simp; omega) | (simp at *; omega))) | with_reducible refine ch_trans ?_ (by with_reducible assumption)))
          simpa using this, HN'⟩
        case measure => simp [intOf]; omega
    · have hlti : (cs.length : Int) ≤ k := by omega
      have HA : Hid (∀ i (h : i < cs.length), cs[i].ok = true) := fun i h => HN.out i h (by omega)
      have HS : Hid (∀ u : World, ColsV u (.slice a cs.length p) cs → Calls Try.prog 61 #[.slice a cs.length p] u fun e w' => ∃ b, e = .returned (.map (some b)) ∧ Below u.heap.size u w' ∧ MapIs Try.prog 9 w' b cs.length (plist cs cs.length)) := fun u hu => columnsOf_any _ cs u hu HF.out.2.1
      clear HN
      go_wp2_with fail
      refine (HS.out _ (HC.out.on (by repeat (first | with_reducible exact Below.refl _ _ | with_reducible assumption | with_reducible refine ch_alloc ?_ _ | with_reducible refine Below.drew ?_ | with_reducible refine below_draws _ ?_ | (with_reducible refine Below.setCell ?_ ?_ _; rotate_left; focus (first | with_reducible exact Nat.le_refl _ | (simp; done) | (simp; omega) | (simp at *; omega))) | with_reducible refine ch_trans ?_ (by with_reducible assumption))))).mono ?_
      rintro e w1 ⟨b, rfl, b1, hm⟩
      have HL2 := HL1.on b1
      clear l0 l1 l2
      obtain ⟨l0, l1, l2⟩ := HL2.three
      have hlen := fun ty => hm.len (t := 90) Try.underlying90 ty
      rw [show (plist cs cs.length).length = (firsts cs cs.length).length by simp [plist]] at hlen
      have HM : Hid (MapIs Try.prog 9 w1 b cs.length (plist cs cs.length)) := hm
      have HD := firsts_full cs cs.length (Nat.le_refl _)
      clear hm
      generalize (firsts cs cs.length).length = m at hlen HD
      by_cases hml : m = cs.length
      · subst hml
        have HE : Hid (∀ i (h : i < cs.length), colAt cs cs[i].name = i) := fun i h => HD.1 rfl i h h
        clear HD
        have HQ : Hid (∀ u : World, StrsV u (.slice o ks.length q) ks → MapIs Try.prog 9 u b cs.length (plist cs cs.length) → Calls Try.prog 62 #[.map (some b), .slice o ks.length q] u fun e w' => ∃ q : Bool, e = .returned (.bool q) ∧ (q = true ↔ (1 ≤ ks.length ∧ ∀ j (h : j < ks.length), keyGood cs ks j h)) ∧ Below u.heap.size u w') := fun u hu hm => keysOk_any b _ _ cs ks u hm hu HF.out.2.2
        go_wp2_with fail
        refine (HQ.out _ (HK.out.on (by repeat (first | with_reducible exact Below.refl _ _ | with_reducible assumption | with_reducible refine ch_alloc ?_ _ | with_reducible refine Below.drew ?_ | with_reducible refine below_draws _ ?_ | (with_reducible refine Below.setCell ?_ ?_ _; rotate_left; focus (first | with_reducible exact Nat.le_refl _ | (simp; done) | (simp; omega) | (simp at *; omega))) | with_reducible refine ch_trans ?_ (by with_reducible assumption)))) (HM.out.on (w' := w1) (by repeat (first | with_reducible exact Below.refl _ _ | with_reducible assumption | with_reducible refine ch_alloc ?_ _ | with_reducible refine Below.drew ?_ | with_reducible refine below_draws _ ?_ | (with_reducible refine Below.setCell ?_ ?_ _; rotate_left; focus (first | with_reducible exact Nat.le_refl _ | (simp; done) | (simp; omega) | (simp at *; omega))) | with_reducible refine ch_trans ?_ (by with_reducible assumption))) HM.out.lt)).mono ?_
        rintro e w2 ⟨qq, rfl, hqq, b2⟩
        have HZ : Hid (qq = true ↔ R) := by
          show _ ↔ _
          rw [hqq, HR.out]
          refine ⟨fun h => ⟨by trivial, ?_, by omega, h.1, HA.out, HE.out, h.2⟩, fun h => ⟨h.2.2.2.1, h.2.2.2.2.2.2⟩⟩
          obtain ⟨_, g, _⟩ := h.2 0 (by omega)
          omega
        clear hqq
        go_wp2
        go_ret
        exact ⟨_, rfl, HZ.out, (by repeat (first | with_reducible exact Below.refl _ _ | with_reducible assumption | with_reducible refine ch_alloc ?_ _ | with_reducible refine Below.drew ?_ | with_reducible refine below_draws _ ?_ | (with_reducible refine Below.setCell ?_ ?_ _; rotate_left; focus (first | with_reducible exact Nat.le_refl _ | (simp; done) | (simp; omega) | (simp at *; omega))) | with_reducible refine ch_trans ?_ (by with_reducible assumption)))⟩
      · have HB : Hid (¬ R) := fun h => hml (HD.2 fun i hi _ => (HR.out.1 h).2.2.2.2.2.1 i hi)
        have hml' : ((m : Int) == (cs.length : Int)) = false := by simp; omega
        clear HD
        go_wp2
        go_ret
        exact ⟨_, rfl, ⟨fun h => by simp at h, fun h => absurd h HB.out⟩, (by repeat (first | with_reducible exact Below.refl _ _ | with_reducible assumption | with_reducible refine ch_alloc ?_ _ | with_reducible refine Below.drew ?_ | with_reducible refine below_draws _ ?_ | (with_reducible refine Below.setCell ?_ ?_ _; rotate_left; focus (first | with_reducible exact Nat.le_refl _ | (simp; done) | (simp; omega) | (simp at *; omega))) | with_reducible refine ch_trans ?_ (by with_reducible assumption)))⟩
end Go.Proofs.Ytiijahoheajppaa
