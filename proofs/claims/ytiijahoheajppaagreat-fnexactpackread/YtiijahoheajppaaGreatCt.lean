/- Whether a table is right: the landed TableOk. The places of a right table's keys: the landed keyPlacesOf. A region that draws its order, in worlds that only grow: one walk serves every order. The key of a row: the given l03Key, the landed keyOf. Copies by append of a whole list. Numbers as bytes, written: given and landed. A variable of several cells laid anew. The writer of bytes: what its methods write. Lists of rows in memory: the laws' size, copy and look. Catalogs in memory: the laws' size, copy and look. -/
import Derived.Test.YtiijahoheajppaaGreatTbOkS
import Derived.Test.YtiijahoheajppaaGreatColOkI
import Derived.Test.YtiijahoheajppaaGreatPl
import Derived.Test.YtiijahoheajppaaGreatAp
import Derived.Test.YtiijahoheajppaaGreatCh
import Derived.Deep.QuietTactic
import Derived.BigQuiet
import Derived.Test.YtiijahoheajppaaGreatVs
import Derived.Deep.RegionWith
import Derived.Test.YtiijahoheajppaaGreatMarkG
import Derived.Test.YtiijahoheajppaaGreatBt
import Derived.Test.YtiijahoheajppaaGreatWm
import Derived.Lib.AppendStr
import Derived.Test.YtiijahoheajppaaGreatRw
import Derived.Test.YtiijahoheajppaaGreatTab
namespace Go.Proofs.YtiijahoheajppaaGreat
open Go.ChangeShapes Go.WideShapes Go.ChangeAt Go.RowKit

theorem colAt_first {cs : List Cl} {s : ByteArray} {k : Nat} (h : colAt cs s = k) : ∃ hk : k < cs.length, cs[k].name = s ∧ ∀ j (h : j < cs.length), j < k → cs[j].name ≠ s := by
  unfold colAt at h
  cases hf : cs.findIdx? (fun c => decide (c.name = s)) with
  | none => rw [hf] at h; simp only [] at h; omega
  | some i =>
    rw [hf] at h
    simp only [] at h
    obtain rfl : i = k := by omega
    obtain ⟨hi, he, hn⟩ := List.findIdx?_eq_some_iff_getElem.1 hf
    exact ⟨hi, by simpa using he, fun j h hj => by simpa using hn j hj⟩
theorem firsts_not {cs : List Cl} {s : ByteArray} {k : Nat} (h : (firsts cs k).find? (fun p => decide (p.2.name = s)) = .none) : ∀ j (h : j < cs.length), j < k → cs[j].name ≠ s := by
  intro j hj hjk e
  cases hf : cs.findIdx? (fun c => decide (c.name = s)) with
  | none => have := List.findIdx?_eq_none_iff.1 hf _ (List.getElem_mem hj); simp [e] at this
  | some i =>
    obtain ⟨hi, he, hn⟩ := List.findIdx?_eq_some_iff_getElem.1 hf
    by_cases hik : i < k
    · rw [firsts_some hi (by simpa using he) (fun j h hj => by simpa using hn j hj) k hik] at h; cases h
    · have := hn j (by omega); simp [e] at this
theorem firsts_le (cs : List Cl) : ∀ k, (firsts cs k).length ≤ k
  | 0 => by simp [firsts]
  | k + 1 => by
    have ih := firsts_le cs k
    rw [firsts]
    split
    · split
      · omega
      · simp; omega
    · omega
theorem firsts_full (cs : List Cl) : ∀ k, k ≤ cs.length → ((firsts cs k).length = k ↔ ∀ i (h : i < cs.length), i < k → colAt cs cs[i].name = i)
  | 0, _ => ⟨fun _ i h hi => by omega, fun _ => rfl⟩
  | k + 1, hk => by
    have hlt : k < cs.length := by omega
    have ih := firsts_full cs k (by omega)
    cases hq : (firsts cs k).any (fun p => decide (p.2.name = cs[k].name))
    · have hd := firsts_not (firsts_any.1 hq)
      rw [firsts_add hlt hq]
      constructor
      · intro h i hi hik
        by_cases e : i = k
        · subst e; exact colAt_some hi rfl hd
        · exact ih.1 (by simpa using h) i hi (by omega)
      · intro h
        have := ih.2 fun i hi hik => h i hi (by omega)
        simp [this]
    · obtain ⟨q, hqf⟩ := firsts_any.2 hq
      obtain ⟨i, hi, hik, rfl⟩ := firsts_mem k q (List.mem_of_find?_eq_some hqf)
      have hn : cs[i].name = cs[k].name := by
        have := @List.find?_some _ (fun p : Int × Cl => decide (p.2.name = cs[k].name)) _ _ hqf
        simpa using this
      rw [firsts_skip hlt hq]
      constructor
      · intro h; have := firsts_le cs k; omega
      · intro h
        obtain ⟨_, _, h3⟩ := colAt_first (h k hlt (by omega))
        exact absurd hn (h3 i hi hik)

set_option maxRecDepth 100000 in
set_option maxHeartbeats 2000000 in
/-- keysOk -/
theorem keysOk_any (b n : Nat) (kv : Value) (cs : List Cl) (ks : List ByteArray) (w : World) (hm : MapIs Tryz.prog 9 w b n (plist cs cs.length)) (hk : StrsV w kv ks) (hf : ∀ s ∈ ks, s.size ≤ maxLen) :
    Calls Tryz.prog 155 #[.map (some b), kv] w fun e w' => ∃ q : Bool, e = .returned (.bool q) ∧ (q = true ↔ (1 ≤ ks.length ∧ ∀ j (h : j < ks.length), keyGood cs ks j h)) ∧ Below w.heap.size w w' := by
  obtain ⟨a, cap, rfl, hl, hm', hk⟩ := hk
  unfold maxLen at hm'
  have HC : Hid (RowAt w a 1 (ks.map strX)) := hk
  have HM : Hid (MapIs Tryz.prog 9 w b n (plist cs cs.length)) := hm
  have HF : Hid (∀ s ∈ ks, s.size ≤ maxLen) := hf
  clear hk hm hf
  go_enter Tryz.func155, Tryz.ntmps155
  go_wp2
  go_loopw [5, 12] (fun v i wr => ∃ j : Nat, j ≤ ks.length ∧ i = .int .i64 j ∧ v = .int .i64 (lastAt cs ks j) ∧ Below w.heap.size w wr ∧ Hid (∀ i (h : i < ks.length), i < j → keyGood cs ks i h)) (fun _ i _ => ks.length - (intOf i).toNat)
  case atStart => exact ⟨0, Nat.zero_le _, rfl, rfl, Below.refl _ _, fun i h hi => by omega⟩
  case round =>
    obtain ⟨j, hj, rfl, rfl, hb, HN⟩ := hrel
    by_cases hjt : j < ks.length
    · have hjti : (j : Int) < ks.length := by omega
      obtain ⟨b', off', rfl, d0⟩ := (HC.out.on hb).strs j hjt
      have HG : Hid (keyGood cs ks j hjt ↔ (lastAt cs ks j < colAt cs ks[j] ∧ ∃ g : (colAt cs ks[j]).toNat < cs.length, cs[(colAt cs ks[j]).toNat].nt = true)) := Iff.rfl
      have HLS : Hid (lastAt cs ks (j + 1) = colAt cs ks[j]) := lastAt_succ hjt
      have hge := lastAt_ge cs ks j
      have hfd := plist_find cs cs.length ks[j]
      have hM := HM.out.on hb HM.out.lt
      have hsz := HF.out _ (List.getElem_mem hjt)
      rcases colAt_firsts cs ks[j] with ⟨h1, h2⟩ | ⟨i, hi, h1, h2⟩
      · rw [h1] at hfd
        have hlook := hM.look_no Tryz.underlying9 Tryz.underlying201 (zeroP _) hsz hfd
        have HB : Hid (¬ keyGood cs ks j hjt) := fun h => by have := (HG.out.1 h).1; omega
        clear hfd hM h1 h2 hsz
        go_wp2
        go_ret
        exact ⟨_, rfl, ⟨fun h => by simp at h, fun h => absurd (h.2 j hjt) HB.out⟩, (by repeat (first | with_reducible exact Below.refl _ _ | with_reducible assumption | with_reducible refine ch_alloc ?_ _ | with_reducible refine Below.drew ?_ | with_reducible refine below_draws _ ?_ | (with_reducible refine Below.setCell ?_ ?_ _; rotate_left; focus (first | with_reducible exact Nat.le_refl _ | (simp; done) | (simp; omega) | (simp at *; omega))) | with_reducible refine ch_trans ?_ (by with_reducible assumption)))⟩
      · rw [h1] at hfd
        have hlook : _ = Result.ok (Value.tuple #[.agg #[.int .i64 i, .string cs[i].name, .int .i64 cs[i].ty, .bool cs[i].nt, .bool cs[i].has, .int .i64 cs[i].dt, .int .i64 cs[i].dn, .string cs[i].ds], .bool true]) _ := hM.look_yes Tryz.underlying9 Tryz.underlying201 (zeroP _) hsz hfd
        rw [h2] at HG HLS
        rw [Int.toNat_natCast] at HG
        clear hfd hM h1 h2 hsz
        cases hnt : cs[i].nt
        · have HB : Hid (¬ keyGood cs ks j hjt) := fun h => by obtain ⟨_, _, h2⟩ := HG.out.1 h; rw [hnt] at h2; cases h2
          rw [hnt] at hlook
          go_wp2
          go_ret
          exact ⟨_, rfl, ⟨fun h => by simp at h, fun h => absurd (h.2 j hjt) HB.out⟩, (by repeat (first | with_reducible exact Below.refl _ _ | with_reducible assumption | with_reducible refine ch_alloc ?_ _ | with_reducible refine Below.drew ?_ | with_reducible refine below_draws _ ?_ | (with_reducible refine Below.setCell ?_ ?_ _; rotate_left; focus (first | with_reducible exact Nat.le_refl _ | (simp; done) | (simp; omega) | (simp at *; omega))) | with_reducible refine ch_trans ?_ (by with_reducible assumption)))⟩
        rw [hnt] at hlook
        by_cases hle : (i : Int) ≤ lastAt cs ks j
        · have HB : Hid (¬ keyGood cs ks j hjt) := fun h => by have := (HG.out.1 h).1; omega
          have hle' : decide ((i : Int) ≤ lastAt cs ks j) = true := by simpa using hle
          go_wp2
          go_ret
          exact ⟨_, rfl, ⟨fun h => by simp at h, fun h => absurd (h.2 j hjt) HB.out⟩, (by repeat (first | with_reducible exact Below.refl _ _ | with_reducible assumption | with_reducible refine ch_alloc ?_ _ | with_reducible refine Below.drew ?_ | with_reducible refine below_draws _ ?_ | (with_reducible refine Below.setCell ?_ ?_ _; rotate_left; focus (first | with_reducible exact Nat.le_refl _ | (simp; done) | (simp; omega) | (simp at *; omega))) | with_reducible refine ch_trans ?_ (by with_reducible assumption)))⟩
        · have hle' : decide ((i : Int) ≤ lastAt cs ks j) = false := by simpa using hle
          have HN' : Hid (∀ i (h : i < ks.length), i < j + 1 → keyGood cs ks i h) := fun i' h hi' => by
            by_cases e : i' = j
            · subst e; exact HG.out.2 ⟨by omega, hi, hnt⟩
            · exact HN.out i' h (by omega)
          go_wp2
          go_round
          case rel => exact ⟨j + 1, by omega, by go_num, by rw [HLS.out], (by repeat (first | with_reducible exact Below.refl _ _ | with_reducible assumption | with_reducible refine ch_alloc ?_ _ | with_reducible refine Below.drew ?_ | with_reducible refine below_draws _ ?_ | (with_reducible refine Below.setCell ?_ ?_ _; rotate_left; focus (first | with_reducible exact Nat.le_refl _ | (simp; done) | (simp; omega) | (simp at *; omega))) | with_reducible refine ch_trans ?_ (by with_reducible assumption))), HN'⟩
          case measure => simp [intOf]; omega
    · have hjti : (ks.length : Int) ≤ j := by omega
      have HY : Hid ((1 ≤ ks.length ∧ ∀ j (h : j < ks.length), keyGood cs ks j h) ↔ 0 < (ks.length : Int)) := ⟨fun h => by have := h.1; omega, fun h => ⟨by omega, fun i h => HN.out i h (by omega)⟩⟩
      go_wp2
      go_ret
      exact ⟨_, rfl, by rw [HY.out]; simp, (by repeat (first | with_reducible exact Below.refl _ _ | with_reducible assumption | with_reducible refine ch_alloc ?_ _ | with_reducible refine Below.drew ?_ | with_reducible refine below_draws _ ?_ | (with_reducible refine Below.setCell ?_ ?_ _; rotate_left; focus (first | with_reducible exact Nat.le_refl _ | (simp; done) | (simp; omega) | (simp at *; omega))) | with_reducible refine ch_trans ?_ (by with_reducible assumption)))⟩

set_option maxRecDepth 100000 in
set_option maxHeartbeats 4000000 in
/-- impl.TableOk -/
theorem tableOk_impl (x : Array Value) (t : Tc) (w : World) (hx : TabV w x t) (hf : t.fit) :
    Calls Tryz.prog 140 #[.agg x] w fun e w' => ∃ q : Bool, e = .returned (.bool q) ∧ (q = true ↔ t.right) ∧ Below w.heap.size w w' := by
  obtain ⟨a, p, o, q, rfl, hx, hc, hk⟩ := hx.lit
  have hcap : t.cols.length ≤ 9223372036854775807 ∧ t.keys.length ≤ 9223372036854775807 := by
    obtain ⟨_, _, e, h1, h2, _⟩ := hc
    obtain ⟨_, _, e', h1', h2', _⟩ := hk
    unfold maxLen at h2 h2'
    omega
  obtain ⟨hl1, hl2⟩ := hcap
  have HW : Hid (∀ w : World, Calls Tryz.prog 118 #[.string t.name] w fun e w' => e = .returned (.bool (wordB t.name)) ∧ w' = w) := fun w => word_impl t.name w hf.1
  have HC : Hid (ColsV w (.slice a t.cols.length p) t.cols) := hc
  have HK : Hid (StrsV w (.slice o t.keys.length q) t.keys) := hk
  have HF : Hid t.fit := hf
  have HL := Loc.new w #[.string t.name, .slice a t.cols.length p, .slice o t.keys.length q] 177
  have HR : Hid (t.right ↔ (wordB t.name = true ∧ 1 ≤ t.cols.length ∧ t.cols.length ≤ 8 ∧ 1 ≤ t.keys.length ∧ (∀ i (h : i < t.cols.length), t.cols[i].ok = true) ∧ (∀ i (h : i < t.cols.length), colAt t.cols t.cols[i].name = i) ∧ ∀ j (h : j < t.keys.length), keyGood t.cols t.keys j h)) := Iff.rfl
  clear hx hc hk hf
  generalize t.right = R at HR ⊢
  obtain ⟨name, cs, ks⟩ := t
  simp only at *
  cases hw : wordB name
  · rw [hw] at HW HR
    clear hw
    go_enter Tryz.func140, Tryz.ntmps140
    go_wp2_with (go_at_call 118; refine (HW.out _).mono ?_; rintro e w' ⟨rfl, hw⟩; subst w')
    go_ret
    exact ⟨_, rfl, ⟨fun h => by simp at h, fun h => by have := (HR.out.1 h).1; simp at this⟩, (by repeat (first | with_reducible exact Below.refl _ _ | with_reducible assumption | with_reducible refine ch_alloc ?_ _ | with_reducible refine Below.drew ?_ | with_reducible refine below_draws _ ?_ | (with_reducible refine Below.setCell ?_ ?_ _; rotate_left; focus (first | with_reducible exact Nat.le_refl _ | (simp; done) | (simp; omega) | (simp at *; omega))) | with_reducible refine ch_trans ?_ (by with_reducible assumption)))⟩
  rw [hw] at HW HR
  clear hw
  by_cases h8 : 8 < cs.length
  · have e8 : decide ((8 : Int) < cs.length) = true := by simp; omega
    go_enter Tryz.func140, Tryz.ntmps140
    go_wp2_with (go_at_call 118; refine (HW.out _).mono ?_; rintro e w' ⟨rfl, hw⟩; subst w')
    go_ret
    exact ⟨_, rfl, ⟨fun h => by simp at h, fun h => by have := (HR.out.1 h).2.2.1; omega⟩, (by repeat (first | with_reducible exact Below.refl _ _ | with_reducible assumption | with_reducible refine ch_alloc ?_ _ | with_reducible refine Below.drew ?_ | with_reducible refine below_draws _ ?_ | (with_reducible refine Below.setCell ?_ ?_ _; rotate_left; focus (first | with_reducible exact Nat.le_refl _ | (simp; done) | (simp; omega) | (simp at *; omega))) | with_reducible refine ch_trans ?_ (by with_reducible assumption)))⟩
  have e8 : decide ((8 : Int) < cs.length) = false := by simp; omega
  go_enter Tryz.func140, Tryz.ntmps140
  go_wp2_with (go_at_call 118; refine (HW.out _).mono ?_; rintro e w' ⟨rfl, hw⟩; subst w')
  go_loopw [19] (fun i wr => ∃ k : Nat, k ≤ cs.length ∧ i = .int .i64 k ∧ Below (w.heap.size + 1) (w.alloc (.cells #[.string name, .slice a cs.length p, .slice o ks.length q] 177)) wr ∧ Hid (∀ i (h : i < cs.length), i < k → cs[i].ok = true)) (fun i _ => cs.length - (intOf i).toNat)
  case atStart => exact ⟨0, Nat.zero_le _, rfl, Below.refl _ _, fun i h hi => by omega⟩
  case round =>
    obtain ⟨k, hk, rfl, hb0, HN⟩ := hrel
    have hb1 : Below (w.alloc (.cells #[.string name, .slice a cs.length p, .slice o ks.length q] 177)).heap.size (w.alloc (.cells #[.string name, .slice a cs.length p, .slice o ks.length q] 177)) wr := by simpa using hb0
    have hb : Below w.heap.size w wr := ch_trans (ch_alloc (Below.refl _ _) _) hb1
    have HL1 := HL.on hb1
    obtain ⟨l0, l1, l2⟩ := HL1.three
    by_cases hlt : k < cs.length
    · have hlti : (k : Int) < cs.length := by omega
      obtain ⟨b, off, rfl, c0, c1, c2, c3, c4, c5, c6⟩ : ∃ b off, a = some ⟨b, off, none⟩ ∧ _ := by
        obtain ⟨a', cap', e, _, _, hr⟩ := HC.out.on hb
        cases e
        exact hr.cols k hlt
      have HS : Hid (∀ w : World, Calls Tryz.prog 153 #[cs[k].v] w fun e w' => e = .returned (.bool cs[k].ok) ∧ Below w.heap.size w w') := fun w => colOk_impl cs[k] w (HF.out.2.1 _ (List.getElem_mem hlt)).1
      cases hok : cs[k].ok
      · have HB : Hid (¬ R) := fun h => by have := (HR.out.1 h).2.2.2.2.1 k hlt; rw [hok] at this; cases this
        rw [hok] at HS
        clear hok
        go_wp2_with (go_at_call 153; refine (HS.out _).mono ?_; rintro e w1 ⟨rfl, b1⟩)
        go_ret
        exact ⟨_, rfl, ⟨fun h => by simp at h, fun h => absurd h HB.out⟩, (by repeat (first | with_reducible exact Below.refl _ _ | with_reducible assumption | with_reducible refine ch_alloc ?_ _ | with_reducible refine Below.drew ?_ | with_reducible refine below_draws _ ?_ | (with_reducible refine Below.setCell ?_ ?_ _; rotate_left; focus (first | with_reducible exact Nat.le_refl _ | (simp; done) | (simp; omega) | (simp at *; omega))) | with_reducible refine ch_trans ?_ (by with_reducible assumption)))⟩
      · have HN' : Hid (∀ i (h : i < cs.length), i < k + 1 → cs[i].ok = true) := fun i h hi => by
          by_cases e : i = k
          · subst e; exact hok
          · exact HN.out i h (by omega)
        rw [hok] at HS
        clear hok
        go_wp2_with (go_at_call 153; refine (HS.out _).mono ?_; rintro e w1 ⟨rfl, b1⟩)
        go_round
        case rel => exact ⟨k + 1, by omega, by go_num, by
          have : Below (w.alloc (.cells #[.string name, .slice (some ⟨b, off, none⟩) cs.length p, .slice o ks.length q] 177)).heap.size (w.alloc (.cells #[.string name, .slice (some ⟨b, off, none⟩) cs.length p, .slice o ks.length q] 177)) w1 := (by repeat (first | with_reducible exact Below.refl _ _ | with_reducible assumption | with_reducible refine ch_alloc ?_ _ | with_reducible refine Below.drew ?_ | with_reducible refine below_draws _ ?_ | (with_reducible refine Below.setCell ?_ ?_ _; rotate_left; focus (first | with_reducible exact Nat.le_refl _ | (simp; done) | (simp; omega) | (simp at *; omega))) | with_reducible refine ch_trans ?_ (by with_reducible assumption)))
          simpa using this, HN'⟩
        case measure => simp [intOf]; omega
    · have hlti : (cs.length : Int) ≤ k := by omega
      have HA : Hid (∀ i (h : i < cs.length), cs[i].ok = true) := fun i h => HN.out i h (by omega)
      have HS : Hid (∀ u : World, ColsV u (.slice a cs.length p) cs → Calls Tryz.prog 154 #[.slice a cs.length p] u fun e w' => ∃ b, e = .returned (.map (some b)) ∧ Below u.heap.size u w' ∧ MapIs Tryz.prog 9 w' b cs.length (plist cs cs.length)) := fun u hu => columnsOf_any _ cs u hu HF.out.2.1
      clear HN
      go_wp2_with fail
      refine (HS.out _ (HC.out.on (by repeat (first | with_reducible exact Below.refl _ _ | with_reducible assumption | with_reducible refine ch_alloc ?_ _ | with_reducible refine Below.drew ?_ | with_reducible refine below_draws _ ?_ | (with_reducible refine Below.setCell ?_ ?_ _; rotate_left; focus (first | with_reducible exact Nat.le_refl _ | (simp; done) | (simp; omega) | (simp at *; omega))) | with_reducible refine ch_trans ?_ (by with_reducible assumption))))).mono ?_
      rintro e w1 ⟨b, rfl, b1, hm⟩
      have HL2 := HL1.on b1
      clear l0 l1 l2
      obtain ⟨l0, l1, l2⟩ := HL2.three
      have hlen := fun ty => hm.len (t := 201) Tryz.underlying201 ty
      rw [show (plist cs cs.length).length = (firsts cs cs.length).length by simp [plist]] at hlen
      have HM : Hid (MapIs Tryz.prog 9 w1 b cs.length (plist cs cs.length)) := hm
      have HD := firsts_full cs cs.length (Nat.le_refl _)
      clear hm
      generalize (firsts cs cs.length).length = m at hlen HD
      by_cases hml : m = cs.length
      · subst hml
        have HE : Hid (∀ i (h : i < cs.length), colAt cs cs[i].name = i) := fun i h => HD.1 rfl i h h
        clear HD
        have HQ : Hid (∀ u : World, StrsV u (.slice o ks.length q) ks → MapIs Tryz.prog 9 u b cs.length (plist cs cs.length) → Calls Tryz.prog 155 #[.map (some b), .slice o ks.length q] u fun e w' => ∃ q : Bool, e = .returned (.bool q) ∧ (q = true ↔ (1 ≤ ks.length ∧ ∀ j (h : j < ks.length), keyGood cs ks j h)) ∧ Below u.heap.size u w') := fun u hu hm => keysOk_any b _ _ cs ks u hm hu HF.out.2.2
        go_wp2_with fail
        refine (HQ.out _ (HK.out.on (by repeat (first | with_reducible exact Below.refl _ _ | with_reducible assumption | with_reducible refine ch_alloc ?_ _ | with_reducible refine Below.drew ?_ | with_reducible refine below_draws _ ?_ | (with_reducible refine Below.setCell ?_ ?_ _; rotate_left; focus (first | with_reducible exact Nat.le_refl _ | (simp; done) | (simp; omega) | (simp at *; omega))) | with_reducible refine ch_trans ?_ (by with_reducible assumption)))) (HM.out.on (w' := w1) (by repeat (first | with_reducible exact Below.refl _ _ | with_reducible assumption | with_reducible refine ch_alloc ?_ _ | with_reducible refine Below.drew ?_ | with_reducible refine below_draws _ ?_ | (with_reducible refine Below.setCell ?_ ?_ _; rotate_left; focus (first | with_reducible exact Nat.le_refl _ | (simp; done) | (simp; omega) | (simp at *; omega))) | with_reducible refine ch_trans ?_ (by with_reducible assumption))) HM.out.lt)).mono ?_
        rintro e w2 ⟨qq, rfl, hqq, b2⟩
        have HZ : Hid (qq = true ↔ R) := by
          show _ ↔ _
          rw [hqq, HR.out]
          refine ⟨fun h => ⟨by trivial, ?_, by omega, h.1, HA.out, HE.out, h.2⟩, fun h => ⟨h.2.2.2.1, h.2.2.2.2.2.2⟩⟩
          obtain ⟨_, g, _⟩ := h.2 0 (by omega)
          omega
        clear hqq
        go_wp2
        go_ret
        exact ⟨_, rfl, HZ.out, (by repeat (first | with_reducible exact Below.refl _ _ | with_reducible assumption | with_reducible refine ch_alloc ?_ _ | with_reducible refine Below.drew ?_ | with_reducible refine below_draws _ ?_ | (with_reducible refine Below.setCell ?_ ?_ _; rotate_left; focus (first | with_reducible exact Nat.le_refl _ | (simp; done) | (simp; omega) | (simp at *; omega))) | with_reducible refine ch_trans ?_ (by with_reducible assumption)))⟩
      · have HB : Hid (¬ R) := fun h => hml (HD.2 fun i hi _ => (HR.out.1 h).2.2.2.2.2.1 i hi)
        have hml' : ((m : Int) == (cs.length : Int)) = false := by simp; omega
        clear HD
        go_wp2
        go_ret
        exact ⟨_, rfl, ⟨fun h => by simp at h, fun h => absurd h HB.out⟩, (by repeat (first | with_reducible exact Below.refl _ _ | with_reducible assumption | with_reducible refine ch_alloc ?_ _ | with_reducible refine Below.drew ?_ | with_reducible refine below_draws _ ?_ | (with_reducible refine Below.setCell ?_ ?_ _; rotate_left; focus (first | with_reducible exact Nat.le_refl _ | (simp; done) | (simp; omega) | (simp at *; omega))) | with_reducible refine ch_trans ?_ (by with_reducible assumption)))⟩
end Go.Proofs.YtiijahoheajppaaGreat

namespace Go.Proofs.YtiijahoheajppaaGreat
open Go.ChangeShapes Go.WideShapes Go.ChangeAt Go.RowKit

theorem MapIs.look_at {P : Program} {k t e : TypeId} {w : World} {b n : Nat} {L : List (ByteArray × Value)} (h : MapIs P k w b n L) (hk : P.underlying k = some .string) (ht : P.underlying t = some (.map k e)) {z : Value} (hz : (zeroValue e).run P w = .ok z w) {s : ByteArray} (hs : s.size ≤ maxLen) {p : ByteArray × Value} (hp : L.find? (fun p => decide (p.1 = s)) = some p) :
    (Instr.lookup t (.map (some b)) (.string s) false).run P w = .ok p.2 w := by
  obtain ⟨D, ho, h1, h2, _⟩ := h
  obtain ⟨v, ps, hr, hv⟩ := ho.lookup (Maps.string_keyed hk) ht hz (zd := .held z) (zp := []) rfl (WideMaps.keyOf_string_mk hk hs)
  rw [h2 s p hp] at hv
  have hv' : v = p.2 := by simp [rv] at hv; exact hv.1
  rw [hr, hv']
/-- Each key of a right table is at a place. -/
theorem right_key {t : Tc} (h : t.right) (j : Nat) (hj : j < t.keys.length) : ∃ i, ∃ hi : i < t.cols.length, colAt t.cols t.keys[j] = (i : Int) ∧ t.cols[i].nt = true := by
  obtain ⟨h1, g, h2⟩ := h.2.2.2.2.2.2 j hj
  have h3 := lastAt_ge t.cols t.keys j
  refine ⟨_, g, by omega, h2⟩
theorem right_keys {t : Tc} (h : t.right) : t.keys.length ≤ t.cols.length := by
  have hl : ∀ j, j ≤ t.keys.length → (j : Int) - 1 ≤ lastAt t.cols t.keys j := by
    intro j
    induction j with
    | zero => intro _; rw [lastAt]; omega
    | succ j ih =>
      intro hj
      have h1 := ih (by omega)
      have h2 := (h.2.2.2.2.2.2 j (by omega)).1
      rw [lastAt_succ (by omega)]
      omega
  have h0 := h.2.2.2.1
  have h1 := hl t.keys.length (Nat.le_refl _)
  obtain ⟨n, hn⟩ : ∃ n, t.keys.length = n + 1 := ⟨t.keys.length - 1, by omega⟩
  rw [hn, lastAt_succ (by omega)] at h1
  have := (colAt_lt t.cols t.keys[n]).2
  omega
/-- The places of the keys. -/
def Tc.places (t : Tc) : List Int := t.keys.map (colAt t.cols)
abbrev intX (i : Int) : Array Value := #[.int .i64 i]
/-- Numbers behind a slice. -/
def IntsV (w : World) (v : Value) (is : List Int) : Prop := ∃ a cap, v = .slice a is.length cap ∧ is.length ≤ cap ∧ cap ≤ maxLen ∧ RowAt w a 1 (is.map intX)
theorem IntsV.on {w w' : World} {v : Value} {is : List Int} (h : IntsV w v is) (b : Below w.heap.size w w') : IntsV w' v is := by
  obtain ⟨a, cap, e, h1, h2, h⟩ := h; exact ⟨a, cap, e, h1, h2, h.on b⟩
theorem IntsV.lit {w : World} {v : Value} {is : List Int} (h : IntsV w v is) : ∃ a cap, v = .slice a is.length cap ∧ is.length ≤ cap ∧ cap ≤ maxLen ∧ IntsV w (.slice a is.length cap) is := by
  obtain ⟨a, cap, rfl, h1, h2, h3⟩ := h; exact ⟨a, cap, rfl, h1, h2, a, cap, rfl, h1, h2, h3⟩
theorem IntsV.row {w : World} {a : Option Addr} {n cap : Nat} {is : List Int} (h : IntsV w (.slice a n cap) is) : RowAt w a 1 (is.map intX) := by
  obtain ⟨a', cap', e, _, _, h⟩ := h; cases e; exact h
theorem RowAt.ints {w : World} {a : Option Addr} {ks : List Int} (h : RowAt w a 1 (ks.map intX)) (k : Nat) (hk : k < ks.length) : ∃ b off, a = some ⟨b, off, none⟩ ∧ w.cell? ⟨b, off + k, none⟩ = some (.int .i64 ks[k]) := by
  rcases h.2 with h0 | ⟨b, off, ha, h⟩
  · rw [List.map_eq_nil_iff] at h0; subst h0; exact absurd hk (Nat.not_lt_zero _)
  · have hk' : k < (ks.map intX).length := by simpa using hk
    have e : (ks.map intX)[k] = intX ks[k] := by simp
    have := h k hk' 0 (by omega)
    rw [e, Nat.mul_one] at this
    exact ⟨b, off, ha, this⟩

theorem fieldAt (i ty dt dn : Int) (s ds : ByteArray) (nt has : Bool) (w : World) : (Instr.field 213 (.agg #[.int .i64 i, .string s, .int .i64 ty, .bool nt, .bool has, .int .i64 dt, .int .i64 dn, .string ds]) 0).run Tryz.prog w = .ok (.int .i64 i) w := by kernel_rfl
theorem infoInt : (Tryz.prog.info? 3).map (fun i => (i.zero, i.size, i.bytes)) = some (some (.int .i64 0), 1, 8) := by kernel_rfl

end Go.Proofs.YtiijahoheajppaaGreat

namespace Go.Proofs.YtiijahoheajppaaGreat
open Go.ChangeShapes Go.WideShapes Go.ChangeAt Go.RowKit

/-- A world grown out of another, nothing that was there turned. -/
def Grows (u w : World) : Prop := Below u.heap.size u w
theorem Grows.drawn (u : World) : Grows u { u with drawn := u.drawn + 1 } := ⟨rfl, rfl, rfl, Nat.le_refl _, fun _ _ => rfl⟩
theorem region_grown {P : Program} {id : Nat} {Q : Exit → Act → World → Prop} {a : Act} {u : World} {l : List Oper} (hm : P.follows .mixedOrders = true) (hB : Region.lexB .any l.toArray = true)
    (h : wpQuiet P l.toArray (Grows u) (fun a' => ∀ w', Grows u w' → Q .normal a' w') l a) : (Code.region id l.toArray true).wp P Q a u :=
  wp_region_quiet (C := Grows u) hm hB (Grows.drawn u) (by simpa using h)
/-- A callee that returns a value and only grows the world. -/
theorem Grows.call {P : Program} {f : FuncId} {args : Array Value} {u w : World} {v : Value} (hw : Grows u w) (h : Calls P f args w fun e w' => e = .returned v ∧ Below w.heap.size w w') : Calls P f args w fun e w' => e = .returned v ∧ Grows u w' :=
  h.mono fun _ _ ⟨h1, h2⟩ => ⟨h1, ch_trans hw h2⟩
theorem Grows.cell {u w : World} {p : Addr} {v : Value} (hw : Grows u w) (h : u.cell? p = some v) : w.cell? p = some v := cell_on h hw
end Go.Proofs.YtiijahoheajppaaGreat

namespace Go.Proofs.YtiijahoheajppaaGreat
open Go.ChangeShapes Go.WideShapes Go.ChangeAt Go.RowKit

abbrev Vc.zero : Vc := ⟨0, 0, ByteArray.empty⟩
/-- The values at some places. -/
def valsAt (is : List Int) (vs : List Vc) : List Vc := is.map fun i => vs.getD i.toNat Vc.zero
/-- The key of a row. -/
def keyVals (t : Tc) (vs : List Vc) : List Vc := valsAt t.places vs
theorem valsAt_take {is : List Int} {vs : List Vc} {k i : Nat} (hk : k < is.length) (he : is[k] = (i : Int)) (hi : i < vs.length) : ((valsAt is vs).take (k + 1)).map Vc.cells = ((valsAt is vs).take k).map Vc.cells ++ [vs[i].cells] := by
  have hl : k < (valsAt is vs).length := by simpa [valsAt] using hk
  rw [List.take_succ_eq_append_getElem hl, List.map_append]
  simp [valsAt, he, hi]
theorem Got.vals {w : World} {B : Nat} {T : TypeId} {v : Value} {vs : List Vc} (h : Got w B T 3 v (vs.map Vc.cells)) : ValsV w v vs := by
  obtain ⟨a, cap, e, h1, h2, h3, _⟩ := h.row
  exact ⟨a, cap, by simpa using e, by simpa using h1, h2, h3⟩
theorem infoVal : (Tryz.prog.info? 128).map (fun i => (i.zero, i.size, i.bytes)) = some (some (.agg #[.int .i64 0, .int .i64 0, .string ByteArray.empty]), 3, 32) := by kernel_rfl
theorem val_one (c : Vc) : ∀ u ∈ c.cells.toList, u.oneCell' = true := by
  intro u hu
  simp at hu
  rcases hu with rfl | rfl | rfl <;> rfl
/-- Places within a row. -/
def within' (is : List Int) (n : Nat) : Prop := ∀ k (h : k < is.length), ∃ i : Nat, i < n ∧ is[k] = (i : Int)
theorem right_within {t : Tc} (h : t.right) : within' t.places t.cols.length := fun k hk => by
  obtain ⟨i, hi, e, _⟩ := right_key h k (by simpa [Tc.places] using hk)
  exact ⟨i, hi, by simpa [Tc.places] using e⟩

end Go.Proofs.YtiijahoheajppaaGreat

namespace Go.Proofs.YtiijahoheajppaaGreat
open Go.ChangeShapes Go.WideShapes Go.ChangeAt Go.RowKit

theorem add_flat (b off j : Nat) : (⟨b, off, none⟩ : Addr).add j = ⟨b, off + j, none⟩ := by unfold Addr.add; by_cases hj : j = 0 <;> simp [hj]
theorem RowAt.news {w : World} {b off z : Nat} {ys : List (Array Value)} (h : RowAt w (some ⟨b, off, none⟩) z ys) (hz : 0 < z) (j : Nat) (u : Value) (hj : (ys.flatMap Array.toList)[j]? = some u) : w.cell? ((⟨b, off, none⟩ : Addr).add j) = some u := by
  obtain ⟨h0, h⟩ := h
  have hlt : j < ys.length * z := by
    have := (List.getElem?_eq_some_iff.1 hj).1
    rwa [flat_len ys h0] at this
  rcases h with h | ⟨b', off', e, h⟩
  · subst h; simp at hlt
  · cases e
    have hi : j / z < ys.length := Nat.div_lt_of_lt_mul (by rwa [Nat.mul_comm])
    have hr : j % z < z := Nat.mod_lt _ hz
    have hd : j / z * z + j % z = j := by rw [Nat.mul_comm]; exact Nat.div_add_mod j z
    have h1 := h (j / z) hi (j % z) hr
    have h2 := flat_at ys h0 (j / z) hi (j % z) hr
    rw [hd, hj] at h2
    rw [add_flat, h2, ← h1, Nat.add_assoc, hd]

section
variable {P : Program} {w : World} {t T : TypeId} {zv : Value} {z bytes : Nat}
/-- Some elements behind those of a row of the call's own. -/
theorem app_all (ht : P.underlying t = some (.slice T)) (hinfo : (P.info? T).map (fun i => (i.zero, i.size, i.bytes)) = some (some zv, z, bytes)) (hzs : zv.cells.size = z) (hsz : 0 < z) (hby : bytes ≤ 1000)
    {B : Nat} {v : Value} {xs : List (Array Value)} (hown : Got w B T z v xs) {b off c : Nat} {ys : List (Array Value)} (hy : RowAt w (some ⟨b, off, none⟩) z ys) (h1 : ∀ x ∈ ys, ∀ u ∈ x.toList, u.oneCell' = true) (hlen : xs.length + ys.length < 1000000000) (hB : B ≤ w.heap.size) (ty : TypeId) :
    ∃ v' w', (Builtin.append_ #[t, t] ty #[v, .slice (some ⟨b, off, none⟩) ys.length c]).run P w = .ok v' w' ∧ Got w' B T z v' (xs ++ ys) ∧ Below B w w' ∧ Turns (fun c => v.ownBlock = some c) w w' := by
  obtain ⟨i, hi, hzz⟩ := Option.map_eq_some_iff.1 hinfo
  simp only [Prod.mk.injEq] at hzz
  obtain ⟨hz0, hz1, hz2⟩ := hzz
  obtain ⟨v', w', hr, h2, h3, _⟩ := run_append_own_wide (P := P) w B t ty T i zv z bytes ht hi hz0 hz1 hz2 hzs hsz v xs.length (xs.flatMap Array.toList) hown.2 ⟨b, off, none⟩ ys.length c (ys.flatMap Array.toList) (flat_len ys hy.1) (hy.news hsz) (fun u hu => by
      obtain ⟨x, hx, hu⟩ := List.mem_flatMap.1 hu
      exact h1 x hx u hu) (by unfold maxLen; omega) (by
      have : ((xs.length + ys.length) + (xs.length + ys.length) / 4 + 192) * bytes ≤ 2000000000 * 1000 := Nat.mul_le_mul (by omega) hby
      omega) hB
  refine ⟨v', w', hr, ⟨fun y hy' => ?_, ?_⟩, Below.grown (Below.refl _ _) h3 hB (fun k hk => (World.ownsRow.lt hown.2 k hk).1), ⟨h3.os, h3.tape, h3.output, h3.size, fun c hc hn => h3.block c hc fun e => hn e.symm⟩⟩
  · rcases List.mem_append.1 hy' with hy' | hy'
    · exact hown.1 y hy'
    · exact hy.1 y hy'
  · rw [List.flatMap_append, List.length_append]
    exact h2
theorem Got.empty (w : World) (T : TypeId) (z : Nat) : Got (w.alloc (.cells #[] T)) w.heap.size T z (.slice (some ⟨w.heap.size, 0, none⟩) 0 0) [] :=
  ⟨fun x h => by simp at h, by simp, Or.inr ⟨_, 0, #[], rfl, Nat.le_refl _, Own.new w T #[], Nat.le_refl _, Nat.zero_le _, by simp, by simp⟩⟩
theorem Got.emptyAt (w : World) (T : TypeId) (z : Nat) {n : Nat} (h : w.heap.size = n) : Got (w.alloc (.cells #[] T)) n T z (.slice (some ⟨n, 0, none⟩) 0 0) [] := h ▸ Got.empty w T z
variable {ops : Array Oper} {rest : List Oper} {o : Oper} {a : Act} {Q : Exit → Act → World → Prop}
theorem app_lot (hgd : o.guard = none) (s y : Operand) (ho : o.op = .call { callee := .builtin .append, args := #[s, y], argTypes := #[t, t] })
    (ht : P.underlying t = some (.slice T)) (hinfo : (P.info? T).map (fun i => (i.zero, i.size, i.bytes)) = some (some zv, z, bytes)) (hzs : zv.cells.size = z) (hsz : 0 < z) (hby : bytes ≤ 1000)
    (B : Nat) (v : Value) (xs : List (Array Value)) (hs : a.eval s = v) (hown : Got w B T z v xs) (b off c : Nat) (ys : List (Array Value)) (n : Nat) (hn : n = ys.length) (hy : a.eval y = .slice (some ⟨b, off, none⟩) n c) (hrow : RowAt w (some ⟨b, off, none⟩) z ys) (h1 : ∀ x ∈ ys, ∀ u ∈ x.toList, u.oneCell' = true) (hlen : xs.length + ys.length < 1000000000) (hB : B ≤ w.heap.size)
    (h : ∀ v' w', Got w' B T z v' (xs ++ ys) → Below B w w' → wpList P ops Q rest (a.put o.dst v') w') : wpList P ops Q (o :: rest) a w := by
  subst hn
  obtain ⟨v', w', hr, h2, h3, _⟩ := app_all ht hinfo hzs hsz hby hown hrow h1 hlen hB (c := c) o.type
  refine wpList_plain hgd fun _ hK => ?_
  unfold Oper.wp execOp
  simp only [ho, resolve, invoke, builtin, Sem.run_bind, Sem.run_pure, Result.andThen_ok, List.map_toArray, List.map_cons, List.map_nil, hs, hy, hr]
  exact hK _ _ (h v' w' h2 h3)
theorem Loc.row1 {w : World} {b : Nat} {x : Array Value} (h : Loc w b x) {z : Nat} (hz : x.size = z) : RowAt w (some ⟨b, 0, none⟩) z [x] := by
  refine ⟨fun y hy => by simp at hy; subst hy; exact hz, Or.inr ⟨b, 0, rfl, fun i hi j hj => ?_⟩⟩
  simp at hi
  subst hi
  simp only [Nat.zero_mul, Nat.zero_add, List.getElem_cons_zero]
  rw [h j (by omega), Array.getElem?_eq_getElem (by omega)]
/-- One element behind those of a row of the call's own; nothing else turns. -/
theorem app_turn (hgd : o.guard = none) (s y : Operand) (ho : o.op = .call { callee := .builtin .append, args := #[s, y], argTypes := #[t, t] })
    (ht : P.underlying t = some (.slice T)) (hinfo : (P.info? T).map (fun i => (i.zero, i.size, i.bytes)) = some (some zv, z, bytes)) (hzs : zv.cells.size = z) (hsz : 0 < z) (hby : bytes ≤ 1000)
    (B : Nat) (v : Value) (xs : List (Array Value)) (hs : a.eval s = v) (hown : Got w B T z v xs) (b m : Nat) (x : Array Value) (hy : a.eval y = .slice (some ⟨b, 0, none⟩) 1 m) (hx : Loc w b x) (hxz : x.size = z) (h1 : ∀ u ∈ x.toList, u.oneCell' = true) (hlen : xs.length < 900000000) (hB : B ≤ w.heap.size)
    (h : ∀ v' w', Got w' B T z v' (xs ++ [x]) → Below B w w' → Turns (fun c => v.ownBlock = some c) w w' → wpList P ops Q rest (a.put o.dst v') w') : wpList P ops Q (o :: rest) a w := by
  obtain ⟨v', w', hr, h2, h3, h4⟩ := app_all ht hinfo hzs hsz hby hown (hx.row1 hxz) (fun q hq u hu => by simp at hq; subst hq; exact h1 u hu) (by simp; omega) hB (c := m) o.type
  refine wpList_plain hgd fun _ hK => ?_
  unfold Oper.wp execOp
  simp only [List.length_cons, List.length_nil, Nat.zero_add] at hr
  simp only [ho, resolve, invoke, builtin, Sem.run_bind, Sem.run_pure, Result.andThen_ok, List.map_toArray, List.map_cons, List.map_nil, hs, hy, hr]
  exact hK _ _ (h v' w' h2 h3 h4)
end
theorem vals_one (vs : List Vc) : ∀ x ∈ vs.map Vc.cells, ∀ u ∈ x.toList, u.oneCell' = true := fun x hx u hu => by
  obtain ⟨c, _, rfl⟩ := List.mem_map.1 hx
  exact val_one c u hu

theorem notNil (b off n p : Nat) (w : World) : (binOp .eql 40 (.slice (some ⟨b, off, none⟩) n p) (.slice none 0 0)).run Tryz.prog w = .ok (.bool false) w := by kernel_rfl

end Go.Proofs.YtiijahoheajppaaGreat

namespace Go.Proofs.YtiijahoheajppaaGreat
open Go.ChangeShapes Go.WideShapes Go.ChangeAt Go.RowKit

/-- A number in some bytes, the highest first. -/
def numL (n : Nat) : Nat → List UInt8
  | 0 => []
  | s + 1 => UInt8.ofNat (n / 256 ^ s) :: numL n s
theorem numL_length (n : Nat) : ∀ s, (numL n s).length = s
  | 0 => rfl
  | s + 1 => by rw [numL, List.length_cons, numL_length n s]
theorem dig_eq (n j : Nat) : ((UInt8.ofNat (n / 256 ^ j)).toNat : Int) = (n : Int) / 2 ^ (8 * j) % 256 := by
  rw [UInt8.toNat_ofNat', Int.natCast_emod, Int.natCast_ediv, Int.natCast_pow, Int.pow_mul]; rfl
theorem dig_nat (n j : Nat) : (UInt8.ofNat (n / 256 ^ j)).toNat = n / 256 ^ j % 256 := by rw [UInt8.toNat_ofNat']
theorem quo_dig (m J : Nat) (hm : m ≤ 281474976710656) : (wrap64 ((m : Int) / (J : Int))).tmod 256 % 256 = ((m / J % 256 : Nat) : Int) := by
  have hq : m / J ≤ m := Nat.div_le_self _ _
  rw [← Int.natCast_ediv]
  generalize m / J = Q at hq
  have e : wrap64 (Q : Int) = (Q : Int) := by unfold wrap64; omega
  rw [e, Int.tmod_eq_emod_of_nonneg (by omega)]
  omega
theorem notNilB (b off n p : Nat) (w : World) : (binOp .eql 26 (.slice (some ⟨b, off, none⟩) n p) (.slice none 0 0)).run Tryz.prog w = .ok (.bool false) w := by kernel_rfl

set_option maxRecDepth 100000 in
/-- impl.sizeOk -/
theorem sizeOk_any (s : Int) (w : World) : Calls Tryz.prog 136 #[.int .i64 s] w fun e w' => e = .returned (.bool (decide (1 ≤ s) && decide (s ≤ 6))) ∧ Below w.heap.size w w' := by
  by_cases h1 : s < 1
  · have e : (decide (1 ≤ s) && decide (s ≤ 6)) = false := by simp; omega
    rw [e]
    clear e
    go_enter Tryz.func136, Tryz.ntmps136
    go_wp2
    go_ret
    exact ⟨rfl, (by repeat (first | with_reducible exact Below.refl _ _ | with_reducible assumption | with_reducible refine ch_alloc ?_ _ | with_reducible refine Below.drew ?_ | with_reducible refine below_draws _ ?_ | (with_reducible refine Below.setCell ?_ ?_ _; rotate_left; focus (first | with_reducible exact Nat.le_refl _ | (simp; done) | (simp; omega) | (simp at *; omega))) | with_reducible refine ch_trans ?_ (by with_reducible assumption)))⟩
  by_cases h2 : s ≤ 6
  · have e : (decide (1 ≤ s) && decide (s ≤ 6)) = true := by simp; omega
    rw [e]
    clear e
    go_enter Tryz.func136, Tryz.ntmps136
    go_wp2
    go_ret
    exact ⟨rfl, (by repeat (first | with_reducible exact Below.refl _ _ | with_reducible assumption | with_reducible refine ch_alloc ?_ _ | with_reducible refine Below.drew ?_ | with_reducible refine below_draws _ ?_ | (with_reducible refine Below.setCell ?_ ?_ _; rotate_left; focus (first | with_reducible exact Nat.le_refl _ | (simp; done) | (simp; omega) | (simp at *; omega))) | with_reducible refine ch_trans ?_ (by with_reducible assumption)))⟩
  · have e : (decide (1 ≤ s) && decide (s ≤ 6)) = false := by simp; omega
    rw [e]
    clear e
    go_enter Tryz.func136, Tryz.ntmps136
    go_wp2
    go_ret
    exact ⟨rfl, (by repeat (first | with_reducible exact Below.refl _ _ | with_reducible assumption | with_reducible refine ch_alloc ?_ _ | with_reducible refine Below.drew ?_ | with_reducible refine below_draws _ ?_ | (with_reducible refine Below.setCell ?_ ?_ _; rotate_left; focus (first | with_reducible exact Nat.le_refl _ | (simp; done) | (simp; omega) | (simp at *; omega))) | with_reducible refine ch_trans ?_ (by with_reducible assumption)))⟩

theorem pow_le6 {k : Nat} (h : k ≤ 6) : 256 ^ k ≤ 281474976710656 := by
  have : (256 : Nat) ^ k ≤ 256 ^ 6 := Nat.pow_le_pow_right (by omega) h
  exact this
set_option maxRecDepth 100000 in
/-- spec.l06Pow -/
theorem l06Pow_any (s : Nat) (w : World) (hs : s ≤ 6) : Calls Tryz.prog 63 #[.int .i64 (s : Int)] w fun e w' => e = .returned (.int .i64 ((256 ^ s : Nat) : Int)) ∧ Below w.heap.size w w' := by
  go_enter Tryz.func63, Tryz.ntmps63
  go_wp2
  go_loopw [3, 4] (fun p i wr => ∃ k P : Nat, k ≤ s ∧ i = .int .i64 (k : Int) ∧ p = .int .i64 (P : Int) ∧ Hid (P = 256 ^ k) ∧ P ≤ 281474976710656 ∧ Below w.heap.size w wr) (fun _ i _ => s - (intOf i).toNat)
  case atStart => exact ⟨0, 1, Nat.zero_le _, rfl, rfl, rfl, by omega, (by repeat (first | with_reducible exact Below.refl _ _ | with_reducible assumption | with_reducible refine ch_alloc ?_ _ | with_reducible refine Below.drew ?_ | with_reducible refine below_draws _ ?_ | (with_reducible refine Below.setCell ?_ ?_ _; rotate_left; focus (first | with_reducible exact Nat.le_refl _ | (simp; done) | (simp; omega) | (simp at *; omega))) | with_reducible refine ch_trans ?_ (by with_reducible assumption)))⟩
  case round =>
    obtain ⟨k, P, hk, rfl, rfl, HP, hP, hb⟩ := hrel
    by_cases hlt : k < s
    · have hlti : (k : Int) < s := by omega
      have hP' : P * 256 ≤ 281474976710656 := by
        have := pow_le6 (k := k + 1) (by omega)
        rwa [Nat.pow_succ, ← HP.out] at this
      go_wp2
      go_round
      case rel => exact ⟨k + 1, P * 256, by omega, by go_num, by go_num, by show P * 256 = _; rw [Nat.pow_succ, HP.out], hP', (by repeat (first | with_reducible exact Below.refl _ _ | with_reducible assumption | with_reducible refine ch_alloc ?_ _ | with_reducible refine Below.drew ?_ | with_reducible refine below_draws _ ?_ | (with_reducible refine Below.setCell ?_ ?_ _; rotate_left; focus (first | with_reducible exact Nat.le_refl _ | (simp; done) | (simp; omega) | (simp at *; omega))) | with_reducible refine ch_trans ?_ (by with_reducible assumption)))⟩
      case measure => simp [intOf]; omega
    · have hlti : (s : Int) ≤ k := by omega
      obtain rfl : k = s := by omega
      have HE : Hid (((256 ^ k : Nat) : Int) = (P : Int)) := by show _ = _; rw [HP.out]
      go_wp2
      go_ret
      exact ⟨by rw [HE.out]; rfl, (by repeat (first | with_reducible exact Below.refl _ _ | with_reducible assumption | with_reducible refine ch_alloc ?_ _ | with_reducible refine Below.drew ?_ | with_reducible refine below_draws _ ?_ | (with_reducible refine Below.setCell ?_ ?_ _; rotate_left; focus (first | with_reducible exact Nat.le_refl _ | (simp; done) | (simp; omega) | (simp at *; omega))) | with_reducible refine ch_trans ?_ (by with_reducible assumption)))⟩

/-- Of what was there only blocks of bytes may have turned. -/
def Byt (w w' : World) : Prop := Turns (fun c => ∃ cur, w.heap[c]? = some (.cells cur 5)) w w'
theorem Byt.refl (w : World) : Byt w w := Turns.refl _ _
theorem Byt.trans {a b c : World} (h : Byt a b) (k : Byt b c) : Byt a c :=
  ⟨k.os.trans h.os, k.tape.trans h.tape, k.output.trans h.output, Nat.le_trans h.size k.size, fun i hi hn => (k.block i (Nat.lt_of_lt_of_le hi h.size) fun ⟨cur, hc⟩ => hn ⟨cur, (h.block i hi hn).symm.trans hc⟩).trans (h.block i hi hn)⟩
theorem Byt.below {a b c : World} (h : Byt a b) (k : Below b.heap.size b c) : Byt a c := Turns.below h k
theorem Byt.got {w w' : World} {B : Nat} {v : Value} {xs : List (Array Value)} (h : Got w B 5 1 v xs) (k : Turns (fun c => v.ownBlock = some c) w w') : Byt w w' :=
  k.mono fun c hc => by
    rcases h.2.2 with ⟨e, _⟩ | ⟨g, cap, cur, e, _, hg, _⟩
    · subst e; cases hc
    · subst e; cases hc; exact ⟨_, hg⟩
theorem Byt.own {w w' : World} (h : Byt w w') {c : Nat} {T : TypeId} {cells : Array Value} (ho : Own w c T cells) (hT : T ≠ 5) : Own w' c T cells :=
  (h.block c ho.lt fun ⟨cur, hc⟩ => by unfold Own at ho; rw [ho] at hc; cases hc; exact hT rfl).trans ho
set_option maxRecDepth 100000 in
set_option maxHeartbeats 1000000 in
/-- impl.appendNum -/
theorem appendNum_any (v : Value) (l : List UInt8) (n s B : Nat) (w : World) (hg : Got w B 5 1 v (l.map byX)) (hl : l.length ≤ 4000000) (hs : s ≤ 6) (hB : B ≤ w.heap.size) :
    Calls Tryz.prog 109 #[v, .int .i64 (n : Int), .int .i64 (s : Int)] w fun e w' => ∃ v', e = .returned v' ∧ Below B w w' ∧ Byt w w' ∧ Got w' B 5 1 v' ((l ++ numL n s).map byX) := by
  obtain ⟨a0, n0, c0, rfl, hg⟩ := hg.lit2
  have HG : Hid (Got w B 5 1 (.slice a0 n0 c0) (l.map byX)) := hg
  clear hg
  go_enter Tryz.func109, Tryz.ntmps109
  go_wp2
  go_loopw [0, 7] (fun q i wr => ∃ (k : Nat) (L : List UInt8), k ≤ s ∧ i = .int .i64 ((k : Int) - 1) ∧ Below B w wr ∧ Hid (Byt w wr) ∧ L.length ≤ l.length + (s - k) ∧ Hid (L ++ numL n k = l ++ numL n s) ∧ Hid (Got wr B 5 1 q (L.map byX))) (fun _ i _ => ((intOf i) + 1).toNat)
  case atStart => exact ⟨s, l, Nat.le_refl _, by go_num, Below.refl _ _, Byt.refl _, by omega, rfl, HG⟩
  case round =>
    clear HG
    obtain ⟨k, L, hk, rfl, hb, HY, hL, HL, HG⟩ := hrel
    obtain ⟨ag, ng, cg, rfl, hg⟩ := HG.out.lit2
    have HG' : Hid (Got wr B 5 1 (.slice ag ng cg) (L.map byX)) := hg
    clear HG hg
    cases k with
    | zero =>
      have HE : Hid (L = l ++ numL n s) := by
        have := HL.out; rw [numL, List.append_nil] at this; exact this
      go_wp2
      go_ret
      exact ⟨_, rfl, hb, HY.out, by rw [← HE.out]; exact HG'.out⟩
    | succ j =>
      have hj6 : j ≤ 5 := by omega
      rw [show (((j + 1 : Nat) : Int) - 1) = (j : Int) by omega]
      have HX : Hid (byX (UInt8.ofNat (n / 256 ^ j)) = #[.int .u8 ((n : Int) / 2 ^ (8 * j) % 256)]) := by show #[Value.int .u8 _] = _; rw [dig_eq]
      go_wp2_with (at_builtin; refine app_turn rfl (.tmp 14) (.tmp 20) rfl Tryz.underlying26 infoByte rfl (by decide) (by decide) B _ (L.map byX) rfl (HG'.out.on (ch_alloc (Below.refl _ _) _)) wr.heap.size 1 #[.int .u8 ((n : Int) / 2 ^ (8 * j) % 256)] rfl (Loc.new _ _ _) rfl (fun u hu => by simp at hu; subst hu; rfl) (by simp; omega) (by have := hb.size; simp; omega) ?_; intro v' w2 hg2 hb2 ht2)
      go_round
      case rel => exact ⟨j, L ++ [UInt8.ofNat (n / 256 ^ j)], by omega, by go_num, (hb.alloc (Nat.le_trans hB hb.size) _).trans hb2, (HY.out.below (ch_alloc (Below.refl _ _) _)).trans (Byt.got (HG'.out.on (ch_alloc (Below.refl _ _) _)) ht2), by simp; omega, by
        show _ = _
        rw [← HL.out, List.append_assoc]; rfl, by
        show Got _ _ _ _ _ _
        rw [List.map_append, List.map_cons, List.map_nil, HX.out]; exact hg2⟩
      case measure => simp [intOf]

theorem wrap_pow (z : Nat) (h : z ≤ 6) : wrap64 (2 ^ (8 * z)) = ((256 ^ z : Nat) : Int) := by
  have : z = 0 ∨ z = 1 ∨ z = 2 ∨ z = 3 ∨ z = 4 ∨ z = 5 ∨ z = 6 := by omega
  rcases this with rfl | rfl | rfl | rfl | rfl | rfl | rfl <;> decide +kernel
/-- The numbers that are put. -/
def okPut (n s : Int) : Prop := 1 ≤ s ∧ s ≤ 6 ∧ 0 ≤ n ∧ n < ((256 ^ s.toNat : Nat) : Int)
set_option maxRecDepth 100000 in
set_option maxHeartbeats 1000000 in
/-- spec.PutNum -/
theorem putNum_spec (b off p : Nat) (l : List UInt8) (n s : Int) (w : World) (hv : RowAt w (some ⟨b, off, none⟩) 1 (l.map byX)) (hl : l.length ≤ 2000000) (q : Bool) (L : List UInt8) (hq : (q = true ∧ okPut n s ∧ L = l ++ numL n.toNat s.toNat) ∨ (q = false ∧ ¬ okPut n s ∧ L = [])) :
    Calls Tryz.prog 30 #[.slice (some ⟨b, off, none⟩) l.length p, .int .i64 n, .int .i64 s] w fun e w' => ∃ v', e = .returned (.tuple #[v', .bool q]) ∧ Below w.heap.size w w' ∧ Got w' w.heap.size 5 1 v' (L.map byX) := by
  have HR : Hid (RowAt w (some ⟨b, off, none⟩) 1 (l.map byX)) := hv
  clear hv
  by_cases hs : 1 ≤ s ∧ s ≤ 6
  · obtain ⟨hs1, hs6⟩ := hs
    obtain ⟨z, rfl⟩ : ∃ z : Nat, s = (z : Int) := ⟨s.toNat, by omega⟩
    by_cases hn : n < 0
    · obtain ⟨rfl, rfl⟩ : q = false ∧ L = [] := by
        rcases hq with ⟨_, h, _⟩ | ⟨h, _, h'⟩
        · exact absurd h.2.2.1 (by omega)
        · exact ⟨h, h'⟩
      clear hq
      go_enter Tryz.func30, Tryz.ntmps30
      go_wp2
      go_ret2
      exact ⟨_, rfl, (by repeat (first | with_reducible exact Below.refl _ _ | with_reducible assumption | with_reducible refine ch_alloc ?_ _ | with_reducible refine Below.drew ?_ | with_reducible refine below_draws _ ?_ | (with_reducible refine Below.setCell ?_ ?_ _; rotate_left; focus (first | with_reducible exact Nat.le_refl _ | (simp; done) | (simp; omega) | (simp at *; omega))) | with_reducible refine ch_trans ?_ (by with_reducible assumption))), Got.nil _ _ _ _⟩
    · have hn' : 0 ≤ n := by omega
      obtain ⟨m, rfl⟩ : ∃ m : Nat, n = (m : Int) := ⟨n.toNat, by omega⟩
      have HP : Hid (∀ (k : Nat) (u : World), k ≤ 6 → Calls Tryz.prog 63 #[.int .i64 (k : Int)] u fun e w' => e = .returned (.int .i64 ((256 ^ k : Nat) : Int)) ∧ Below u.heap.size u w') := fun k u hk => l06Pow_any k u hk
      have hz6 : z ≤ 6 := by omega
      by_cases hge : m < 256 ^ z
      · obtain ⟨rfl, rfl⟩ : q = true ∧ L = l ++ numL m z := by
          rcases hq with ⟨h, _, h'⟩ | ⟨_, h, _⟩
          · exact ⟨h, by simpa using h'⟩
          · exact absurd ⟨hs1, hs6, hn', Int.ofNat_lt.2 hge⟩ h
        have hmm := pow_le6 hz6
        obtain ⟨Z, HZ⟩ : ∃ Z : Nat, Hid (Z = 256 ^ z) := ⟨_, rfl⟩
        have hge' : m < Z := by rw [HZ.out]; exact hge
        have HPz := HP.out z
        rw [← HZ.out] at HPz hmm
        have HPZ : Hid (∀ (u : World), Calls Tryz.prog 63 #[.int .i64 (z : Int)] u fun e w' => e = .returned (.int .i64 (Z : Int)) ∧ Below u.heap.size u w') := fun u => HPz u hz6
        clear hq hge HPz
        go_enter Tryz.func30, Tryz.ntmps30
        go_wp2_with (first
          | (go_at_call 63; refine (HPZ.out _).mono ?_; rintro e w1 ⟨rfl, b1⟩)
          | (at_builtin; refine app_lot rfl (.tmp 26) (.tmp 27) rfl Tryz.underlying26 infoByte rfl (by decide) (by decide) w1.heap.size _ [] rfl (Got.empty w1 _ _) b off p (l.map byX) l.length (by simp) rfl (HR.out.on (by repeat (first | with_reducible exact Below.refl _ _ | with_reducible assumption | with_reducible refine ch_alloc ?_ _ | with_reducible refine Below.drew ?_ | with_reducible refine below_draws _ ?_ | (with_reducible refine Below.setCell ?_ ?_ _; rotate_left; focus (first | with_reducible exact Nat.le_refl _ | (simp; done) | (simp; omega) | (simp at *; omega))) | with_reducible refine ch_trans ?_ (by with_reducible assumption)))) (byte_one l) (by simp; omega) (by simp) ?_; intro v' w2 hg2 hb2; have HG2 : Hid (Got w2 w1.heap.size 5 1 v' (l.map byX)) := by
              show Got _ _ _ _ _ _
              simpa using hg2))
        have hb12 : Below w1.heap.size w1 w2 := (ch_alloc (Below.refl _ _) _).trans hb2
        clear hg2 hb2
        have HPk : Hid (∀ (k : Nat) (u : World), k ≤ 6 → Calls Tryz.prog 63 #[.int .i64 (k : Int)] u fun e w' => e = .returned (.int .i64 ((256 ^ k : Nat) : Int)) ∧ Below u.heap.size u w') := HP
        go_loopw [8, 9] (fun q i wr => ∃ (k : Nat) (L : List UInt8), k ≤ z ∧ i = .int .i64 ((k : Int) - 1) ∧ Below w1.heap.size w1 wr ∧ L.length ≤ l.length + (z - k) ∧ Hid (L ++ numL m k = l ++ numL m z) ∧ Hid (Got wr w1.heap.size 5 1 q (L.map byX))) (fun _ i _ => ((intOf i) + 1).toNat)
        case atStart => exact ⟨z, l, Nat.le_refl _, by go_num, hb12, by omega, rfl, HG2⟩
        case round =>
          clear HG2
          obtain ⟨k, L, hk, rfl, hb, hL, HL, HG⟩ := hrel
          obtain ⟨ag, ng, cg, rfl, hg⟩ := HG.out.lit2
          have HG' : Hid (Got wr w1.heap.size 5 1 (.slice ag ng cg) (L.map byX)) := hg
          clear HG hg
          cases k with
          | zero =>
            have HE : Hid (L = l ++ numL m z) := by
              have := HL.out; rw [numL, List.append_nil] at this; exact this
            go_wp2
            go_ret2
            exact ⟨_, rfl, (by repeat (first | with_reducible exact Below.refl _ _ | with_reducible assumption | with_reducible refine ch_alloc ?_ _ | with_reducible refine Below.drew ?_ | with_reducible refine below_draws _ ?_ | (with_reducible refine Below.setCell ?_ ?_ _; rotate_left; focus (first | with_reducible exact Nat.le_refl _ | (simp; done) | (simp; omega) | (simp at *; omega))) | with_reducible refine ch_trans ?_ (by with_reducible assumption))), by rw [← HE.out]; exact HG'.out.mono b1.size⟩
          | succ j =>
            have hj6 : j ≤ 5 := by omega
            rw [show (((j + 1 : Nat) : Int) - 1) = (j : Int) by omega]
            obtain ⟨J, HJ⟩ : ∃ J : Nat, Hid (J = 256 ^ j) := ⟨_, rfl⟩
            have hJ0 : 0 < J := by rw [HJ.out]; exact Nat.pow_pos (by omega)
            have hPj := HPk.out j
            rw [← HJ.out] at hPj
            have HPJ : Hid (∀ (u : World), Calls Tryz.prog 63 #[.int .i64 (j : Int)] u fun e w' => e = .returned (.int .i64 (J : Int)) ∧ Below u.heap.size u w') := fun u => hPj u (by omega)
            clear hPj
            have HX : Hid (byX (UInt8.ofNat (m / 256 ^ j)) = #[.int .u8 ((wrap64 ((m : Int) / (J : Int))).tmod 256 % 256)]) := by
              show #[Value.int .u8 _] = _
              rw [dig_nat, ← HJ.out, quo_dig m J (by omega)]
            go_wp2_with (first
              | (go_at_call 63; refine (HPJ.out _).mono ?_; rintro e w3 ⟨rfl, b3⟩)
              | (at_builtin; refine app_one rfl (.tmp 35) (.tmp 42) rfl Tryz.underlying26 infoByte rfl (by decide) (by decide) w1.heap.size _ (L.map byX) rfl (HG'.out.on (by repeat (first | with_reducible exact Below.refl _ _ | with_reducible assumption | with_reducible refine ch_alloc ?_ _ | with_reducible refine Below.drew ?_ | with_reducible refine below_draws _ ?_ | (with_reducible refine Below.setCell ?_ ?_ _; rotate_left; focus (first | with_reducible exact Nat.le_refl _ | (simp; done) | (simp; omega) | (simp at *; omega))) | with_reducible refine ch_trans ?_ (by with_reducible assumption)))) w3.heap.size 1 #[.int .u8 ((wrap64 ((m : Int) / (J : Int))).tmod 256 % 256)] rfl (Loc.new _ _ _) rfl (fun u hu => by simp at hu; subst hu; rfl) (by simp; omega) (by have := hb.size; have := b3.size; simp; omega) ?_; intro v'' w4 hg4 hb4))
            go_round
            case rel => exact ⟨j, L ++ [UInt8.ofNat (m / 256 ^ j)], by omega, by go_num, ((ch_trans hb b3).alloc (Nat.le_trans hb.size b3.size) _).trans hb4, by simp; omega, by
              show _ = _
              rw [← HL.out, List.append_assoc]; rfl, by
              show Got _ _ _ _ _ _
              rw [List.map_append, List.map_cons, List.map_nil, HX.out]; exact hg4⟩
            case measure => simp [intOf]
      · obtain ⟨rfl, rfl⟩ : q = false ∧ L = [] := by
          rcases hq with ⟨_, h, _⟩ | ⟨h, _, h'⟩
          · exact absurd (Int.ofNat_lt.1 h.2.2.2) hge
          · exact ⟨h, h'⟩
        obtain ⟨Z, HZ⟩ : ∃ Z : Nat, Hid (Z = 256 ^ z) := ⟨_, rfl⟩
        have hge' : ¬ m < Z := by rw [HZ.out]; exact hge
        have HPz := HP.out z
        rw [← HZ.out] at HPz
        have HPZ : Hid (∀ (u : World), Calls Tryz.prog 63 #[.int .i64 (z : Int)] u fun e w' => e = .returned (.int .i64 (Z : Int)) ∧ Below u.heap.size u w') := fun u => HPz u hz6
        clear hq hge HPz
        go_enter Tryz.func30, Tryz.ntmps30
        go_wp2_with (go_at_call 63; refine (HPZ.out _).mono ?_; rintro e w1 ⟨rfl, b1⟩)
        go_ret2
        exact ⟨_, rfl, (by repeat (first | with_reducible exact Below.refl _ _ | with_reducible assumption | with_reducible refine ch_alloc ?_ _ | with_reducible refine Below.drew ?_ | with_reducible refine below_draws _ ?_ | (with_reducible refine Below.setCell ?_ ?_ _; rotate_left; focus (first | with_reducible exact Nat.le_refl _ | (simp; done) | (simp; omega) | (simp at *; omega))) | with_reducible refine ch_trans ?_ (by with_reducible assumption))), Got.nil _ _ _ _⟩
  · obtain ⟨rfl, rfl⟩ : q = false ∧ L = [] := by
      rcases hq with ⟨_, h, _⟩ | ⟨h, _, h'⟩
      · exact absurd ⟨h.1, h.2.1⟩ hs
      · exact ⟨h, h'⟩
    clear hq
    by_cases hs1 : s < 1
    · go_enter Tryz.func30, Tryz.ntmps30
      go_wp2
      go_ret2
      exact ⟨_, rfl, (by repeat (first | with_reducible exact Below.refl _ _ | with_reducible assumption | with_reducible refine ch_alloc ?_ _ | with_reducible refine Below.drew ?_ | with_reducible refine below_draws _ ?_ | (with_reducible refine Below.setCell ?_ ?_ _; rotate_left; focus (first | with_reducible exact Nat.le_refl _ | (simp; done) | (simp; omega) | (simp at *; omega))) | with_reducible refine ch_trans ?_ (by with_reducible assumption))), Got.nil _ _ _ _⟩
    · have hs6 : 6 < s := by omega
      go_enter Tryz.func30, Tryz.ntmps30
      go_wp2
      go_ret2
      exact ⟨_, rfl, (by repeat (first | with_reducible exact Below.refl _ _ | with_reducible assumption | with_reducible refine ch_alloc ?_ _ | with_reducible refine Below.drew ?_ | with_reducible refine below_draws _ ?_ | (with_reducible refine Below.setCell ?_ ?_ _; rotate_left; focus (first | with_reducible exact Nat.le_refl _ | (simp; done) | (simp; omega) | (simp at *; omega))) | with_reducible refine ch_trans ?_ (by with_reducible assumption))), Got.nil _ _ _ _⟩
end Go.Proofs.YtiijahoheajppaaGreat

namespace Go.Proofs.YtiijahoheajppaaGreat
open Go.ChangeShapes Go.WideShapes Go.ChangeAt Go.RowKit

theorem own_stores {b : Nat} {T : TypeId} : ∀ (vs pre old : List Value) (w : World), old.length = vs.length → Own w b T (pre ++ old).toArray → Own (stores w b pre.length vs) b T (pre ++ vs).toArray
  | [], pre, old, w, hl, h => by
    have : old = [] := List.length_eq_zero_iff.1 hl
    subst this; exact h
  | v :: r, pre, [], w, hl, h => by simp at hl
  | v :: r, pre, o :: os, w, hl, h => by
    have h1 := h.set pre.length v
    have e : (pre ++ o :: os).toArray.setIfInBounds pre.length v = ((pre ++ [v]) ++ os).toArray := by
      apply Array.toList_inj.1
      simp
    rw [e] at h1
    have := own_stores r (pre ++ [v]) os _ (by simpa using hl) h1
    simpa [stores] using this
theorem Own.fill {w : World} {b : Nat} {T : TypeId} {old : List Value} (h : Own w b T old.toArray) (vs : List Value) (hl : old.length = vs.length) : Own (stores w b 0 vs) b T vs.toArray := own_stores vs [] old w hl h
theorem Own.past {b c : Nat} {T : TypeId} {cells : Array Value} (hc : b ≠ c) : ∀ (vs : List Value) (w : World) (o : Nat), Own w b T cells → Own (stores w c o vs) b T cells
  | [], _, _, h => h
  | v :: r, _, o, h => Own.past hc r _ (o + 1) (h.other hc v)
theorem stores_turns (b : Nat) : ∀ (vs : List Value) (a w : World) (o : Nat), Turns (fun c => c = b) a w → Turns (fun c => c = b) a (stores w b o vs)
  | [], _, _, _, h => h
  | v :: r, a, _, o, h => stores_turns b r a _ (o + 1) (h.set (p := ⟨b, o, none⟩) rfl v)
theorem Own.turned {w w' : World} {b : Nat} {T : TypeId} {cells : Array Value} (h : Own w b T cells) {S : Nat → Prop} (k : Turns S w w') (hb : ¬ S b) : Own w' b T cells := (k.block b (Array.getElem?_eq_some_iff.1 h).1 hb).trans h
end Go.Proofs.YtiijahoheajppaaGreat

namespace Go.Proofs.YtiijahoheajppaaGreat
open Go.ChangeShapes Go.WideShapes Go.ChangeAt Go.RowKit

/-- Of what was there only the writer and blocks of bytes behind it may have turned. -/
def Wt (bw : Nat) (w w' : World) : Prop := Below bw w w' ∧ ∀ c, c < w.heap.size → c ≠ bw → (¬ ∃ cur, w.heap[c]? = some (.cells cur 5)) → w'.heap[c]? = w.heap[c]?
theorem Wt.refl (bw : Nat) (w : World) : Wt bw w w := ⟨Below.refl _ _, fun _ _ _ _ => rfl⟩
theorem Wt.trans {bw : Nat} {a b c : World} (h : Wt bw a b) (k : Wt bw b c) : Wt bw a c :=
  ⟨h.1.trans k.1, fun i hi hne hn => (k.2 i (Nat.lt_of_lt_of_le hi h.1.size) hne fun ⟨cur, hc⟩ => hn ⟨cur, (h.2 i hi hne hn).symm.trans hc⟩).trans (h.2 i hi hne hn)⟩
theorem Wt.of {bw : Nat} {w w' : World} (h : Byt w w') (hb : Below (bw + 1) w w') : Wt bw w w' := ⟨hb.mono (by omega), fun c hc _ hn => h.block c hc hn⟩
theorem Wt.set (bw : Nat) (w : World) (v : Value) : Wt bw w (w.setCell ⟨bw, 0, none⟩ v) :=
  ⟨Below.setCell (p := ⟨bw, 0, none⟩) (Below.refl _ _) (Nat.le_refl _) v, fun _ _ hne _ => Below.heap_setCell _ _ _ _ hne⟩
theorem Wt.new {bw : Nat} {w w' : World} (k : Below w.heap.size w w') (h : bw ≤ w.heap.size) : Wt bw w w' := ⟨k.mono h, fun c hc _ _ => k.block c hc⟩
theorem Wt.own {bw : Nat} {w w' : World} (h : Wt bw w w') {c : Nat} {T : TypeId} {cells : Array Value} (ho : Own w c T cells) (hc : c ≠ bw) (hT : T ≠ 5) : Own w' c T cells :=
  (h.2 c ho.lt hc fun ⟨cur, hh⟩ => by unfold Own at ho; rw [ho] at hh; cases hh; exact hT rfl).trans ho

/-- The writer that has written L. -/
def WIs (w : World) (bw : Nat) (L : List UInt8) : Prop := ∃ v, Own w bw 120 #[v] ∧ Got w (bw + 1) 5 1 v (L.map byX)
theorem WIs.on {w w' : World} {bw : Nat} {L : List UInt8} (h : WIs w bw L) (k : Below w.heap.size w w') : WIs w' bw L := by
  obtain ⟨v, h1, h2⟩ := h; exact ⟨v, h1.on k, h2.on k⟩
theorem WIs.lt {w : World} {bw : Nat} {L : List UInt8} (h : WIs w bw L) : bw < w.heap.size := by
  obtain ⟨v, h1, h2⟩ := h; exact h1.lt
theorem WIs.put {w : World} {bw : Nat} {v v' : Value} {L : List UInt8} (h1 : Own w bw 120 #[v]) (h2 : Got w (bw + 1) 5 1 v' (L.map byX)) : WIs (w.setCell ⟨bw, 0, none⟩ v') bw L :=
  ⟨v', h1.set 0 v', h2.turns ((Turns.refl (fun c => c = bw) w).set rfl _) (fun c h => by omega)⟩
abbrev natI (n : Nat) : Int := (n : Int)
theorem flat_num (s : Nat) : ∀ ns : List Nat, (ns.flatMap (fun n => numL n s)).length = ns.length * s
  | [] => by simp
  | n :: r => by rw [List.flatMap_cons, List.length_append, numL_length, flat_num s r, List.length_cons, Nat.add_mul, Nat.one_mul, Nat.add_comm]

set_option maxRecDepth 100000 in
set_option maxHeartbeats 1000000 in
/-- (*impl.byteWriter).nums -/
theorem nums_any (bw s : Nat) (lv : Value) (ns : List Nat) (L : List UInt8) (w : World) (h : WIs w bw L) (hl : ∀ u, Wt bw w u → IntsV u lv (ns.map natI)) (hs : s ≤ 6) (hL : L.length + ns.length * s ≤ 3000000) :
    Calls Tryz.prog 70 #[.pointer (some ⟨bw, 0, none⟩), .int .i64 (s : Int), lv] w fun e w' => e = .returned (.tuple #[]) ∧ WIs w' bw (L ++ ns.flatMap (fun n => numL n s)) ∧ Wt bw w w' := by
  obtain ⟨a, cap, rfl, h1, h2, _⟩ := (hl w (Wt.refl _ _)).lit
  rw [List.length_map] at h1
  unfold maxLen at h2
  have HL : Hid (∀ u, Wt bw w u → RowAt u a 1 ((ns.map natI).map intX)) := fun u hu => (hl u hu).row
  have HW : Hid (WIs w bw L) := h
  clear hl h
  go_enter Tryz.func70, Tryz.ntmps70
  rw [List.length_map]
  go_wp2
  go_loopw [10] (fun i wr => ∃ k : Nat, k ≤ ns.length ∧ i = .int .i64 (k : Int) ∧ Hid (Wt bw w wr) ∧ Hid (WIs wr bw (L ++ (ns.take k).flatMap (fun n => numL n s)))) (fun i _ => ns.length - (intOf i).toNat)
  case atStart => exact ⟨0, Nat.zero_le _, rfl, Wt.refl _ _, by
    have := HW.out
    show WIs _ _ _
    simpa using this⟩
  case round =>
    clear HW
    obtain ⟨k, hk, rfl, HT, HW⟩ := hrel
    by_cases hlt : k < ns.length
    · have hlti : (k : Int) < ns.length := by omega
      obtain ⟨b, off, rfl, c0⟩ := (HL.out _ HT.out).ints k (by simpa using hlt)
      have e0 : (ns.map natI)[k]'(by simpa using hlt) = (ns[k] : Int) := by simp
      rw [e0] at c0
      clear e0
      obtain ⟨v0, HO, hg⟩ := HW.out
      obtain ⟨a0, n0, q0, rfl, hg⟩ := hg.lit2
      have HG : Hid (Got wr (bw + 1) 5 1 (.slice a0 n0 q0) ((L ++ (ns.take k).flatMap (fun n => numL n s)).map byX)) := hg
      clear hg
      have hlen : (L ++ (ns.take k).flatMap (fun n => numL n s)).length ≤ 3000000 := by
        have h1 : ((ns.take k).flatMap (fun n => numL n s)).length ≤ ns.length * s := by
          rw [flat_num]
          exact Nat.mul_le_mul_right _ (by simp; omega)
        rw [List.length_append]; omega
      have hlw := HO.lt
      have HAP : Hid (Calls Tryz.prog 109 #[.slice a0 n0 q0, .int .i64 (ns[k] : Int), .int .i64 (s : Int)] wr fun e w' => ∃ v', e = .returned v' ∧ Below (bw + 1) wr w' ∧ Byt wr w' ∧ Got w' (bw + 1) 5 1 v' (((L ++ (ns.take k).flatMap (fun n => numL n s)) ++ numL ns[k] s).map byX)) := appendNum_any _ _ ns[k] s (bw + 1) wr HG.out (by omega) hs (by omega)
      have HFL : Hid ((L ++ (ns.take k).flatMap (fun n => numL n s)) ++ numL ns[k] s = L ++ (ns.take (k + 1)).flatMap (fun n => numL n s)) := by
        show _ = _
        rw [List.take_succ_eq_append_getElem hlt, List.flatMap_append, List.append_assoc]
        simp
      have g0 := HO.loc.one
      generalize ns[k] = N at HAP HFL c0
      go_wp2_with (go_at_call 109; refine HAP.out.mono ?_; rintro e w1 ⟨v', rfl, b1, y1, hg1⟩; obtain ⟨a1, n1, q1, rfl, hg1⟩ := hg1.lit2; have HO1 : Own w1 bw 120 #[.slice a0 n0 q0] := (b1.block bw (by omega)).trans HO; have g1 := HO1.loc.one; have i1 := HO1.frozen 0)
      go_round
      case rel => exact ⟨k + 1, by omega, by go_num, HT.out.trans ((Wt.of y1 b1).trans (Wt.set bw w1 _)), by
        show WIs _ _ _
        rw [← HFL.out]
        exact WIs.put HO1 hg1⟩
      case measure => simp [intOf]; omega
    · have hlti : (ns.length : Int) ≤ k := by omega
      have HW' : Hid (WIs wr bw (L ++ ns.flatMap (fun n => numL n s))) := by
        have := HW.out
        rwa [List.take_of_length_le (by omega)] at this
      go_wp2
      go_end0
      exact ⟨rfl, HW'.out, HT.out⟩

/-- Flags behind a slice. -/
abbrev boolX (b : Bool) : Array Value := #[.bool b]
theorem RowAt.bools {w : World} {a : Option Addr} {ks : List Bool} (h : RowAt w a 1 (ks.map boolX)) (k : Nat) (hk : k < ks.length) : ∃ b off, a = some ⟨b, off, none⟩ ∧ w.cell? ⟨b, off + k, none⟩ = some (.bool ks[k]) := by
  rcases h.2 with h0 | ⟨b, off, ha, h⟩
  · rw [List.map_eq_nil_iff] at h0; subst h0; exact absurd hk (Nat.not_lt_zero _)
  · have hk' : k < (ks.map boolX).length := by simpa using hk
    have e : (ks.map boolX)[k] = boolX ks[k] := by simp
    have := h k hk' 0 (by omega)
    rw [e, Nat.mul_one] at this
    exact ⟨b, off, ha, this⟩
/-- A row of numbers of the call's own, of one number. -/
theorem ints_one {w : World} {c : Nat} {N : Int} (h : Own w c 3 #[.int .i64 N]) : IntsV w (.slice (some ⟨c, 0, none⟩) 1 1) [N] :=
  ⟨_, _, rfl, Nat.le_refl _, by unfold maxLen; omega, h.loc.row1 rfl⟩
def flagN (b : Bool) : UInt8 := if b then 1 else 0
theorem numL_one (n : Nat) : numL n 1 = [UInt8.ofNat n] := by simp [numL]

set_option maxRecDepth 100000 in
set_option maxHeartbeats 1000000 in
/-- (*impl.byteWriter).nums of one number in one byte -/
theorem nums_one (bw c s N : Nat) (L : List UInt8) (w : World) (h : WIs w bw L) (ho : Own w c 3 #[.int .i64 (N : Int)]) (hc : c ≠ bw) (hs : s ≤ 6) (hL : L.length ≤ 2000000) :
    Calls Tryz.prog 70 #[.pointer (some ⟨bw, 0, none⟩), .int .i64 (s : Int), .slice (some ⟨c, 0, none⟩) 1 1] w fun e w' => e = .returned (.tuple #[]) ∧ WIs w' bw (L ++ numL N s) ∧ Wt bw w w' :=
  (nums_any bw s _ [N] L w h (fun u hu => by simpa using ints_one (hu.own ho hc (by decide))) hs (by simp; omega)).mono fun e w' ⟨he, h1, h2⟩ => ⟨he, by simpa using h1, h2⟩

set_option maxRecDepth 100000 in
set_option maxHeartbeats 1000000 in
/-- (*impl.byteWriter).flags -/
theorem flags_any (bw : Nat) (a : Option Addr) (cap : Nat) (bs : List Bool) (L : List UInt8) (w : World) (h : WIs w bw L) (hl : ∀ u, Wt bw w u → RowAt u a 1 (bs.map boolX)) (hL : L.length ≤ 1000000) (hbs : bs.length ≤ 1000) :
    Calls Tryz.prog 121 #[.pointer (some ⟨bw, 0, none⟩), .slice a bs.length cap] w fun e w' => e = .returned (.tuple #[]) ∧ WIs w' bw (L ++ bs.map flagN) ∧ Wt bw w w' := by
  have HL : Hid (∀ u, Wt bw w u → RowAt u a 1 (bs.map boolX)) := hl
  have HW : Hid (WIs w bw L) := h
  clear hl h
  go_enter Tryz.func121, Tryz.ntmps121
  go_wp2
  go_loopw [9] (fun i wr => ∃ k : Nat, k ≤ bs.length ∧ i = .int .i64 (k : Int) ∧ Hid (Wt bw w wr) ∧ Hid (WIs wr bw (L ++ (bs.take k).map flagN))) (fun i _ => bs.length - (intOf i).toNat)
  case atStart => exact ⟨0, Nat.zero_le _, rfl, Wt.refl _ _, by
    have := HW.out
    show WIs _ _ _
    simpa using this⟩
  case round =>
    clear HW
    obtain ⟨k, hk, rfl, HT, HW⟩ := hrel
    by_cases hlt : k < bs.length
    · have hlti : (k : Int) < bs.length := by omega
      obtain ⟨b, off, rfl, c0⟩ := (HL.out _ HT.out).bools k hlt
      have hlw := HW.out.lt
      have hlen : (L ++ (bs.take k).map flagN).length ≤ 2000000 := by simp; omega
      have HFL : Hid ((L ++ (bs.take k).map flagN) ++ [flagN bs[k]] = L ++ (bs.take (k + 1)).map flagN) := by
        show _ = _
        rw [List.take_succ_eq_append_getElem hlt, List.map_append, List.append_assoc]; rfl
      have HNO : Hid (∀ (N : Nat) (u : World) (c : Nat), WIs u bw (L ++ (bs.take k).map flagN) → Own u c 3 #[.int .i64 (N : Int)] → c ≠ bw → Calls Tryz.prog 70 #[.pointer (some ⟨bw, 0, none⟩), .int .i64 1, .slice (some ⟨c, 0, none⟩) 1 1] u fun e w' => e = .returned (.tuple #[]) ∧ WIs w' bw ((L ++ (bs.take k).map flagN) ++ [UInt8.ofNat N]) ∧ Wt bw u w') := fun N u c h1 h2 h3 => by
        have := nums_one bw c 1 N _ u h1 h2 h3 (by omega) hlen
        rwa [numL_one] at this
      cases hb : bs[k] with
      | true =>
        rw [hb] at c0 HFL
        clear hb
        go_wp2_with (go_at_call 70; refine (HNO.out 1 (wr.alloc (.cells #[.int .i64 1] 3)) wr.heap.size (HW.out.on (by repeat (first | with_reducible exact Below.refl _ _ | with_reducible assumption | with_reducible refine ch_alloc ?_ _ | with_reducible refine Below.drew ?_ | with_reducible refine below_draws _ ?_ | (with_reducible refine Below.setCell ?_ ?_ _; rotate_left; focus (first | with_reducible exact Nat.le_refl _ | (simp; done) | (simp; omega) | (simp at *; omega))) | with_reducible refine ch_trans ?_ (by with_reducible assumption)))) (Own.new _ _ _) (by omega)).mono ?_; rintro e w1 ⟨rfl, hw1, ht1⟩)
        go_round
        case rel => exact ⟨k + 1, by omega, by go_num, HT.out.trans ((Wt.new (ch_alloc (Below.refl _ _) _) (by omega)).trans ht1), by
          show WIs _ _ _
          rw [← HFL.out]; exact hw1⟩
        case measure => simp [intOf]; omega
      | false =>
        rw [hb] at c0 HFL
        clear hb
        go_wp2_with (go_at_call 70; refine (HNO.out 0 (wr.alloc (.cells #[.int .i64 0] 3)) wr.heap.size (HW.out.on (by repeat (first | with_reducible exact Below.refl _ _ | with_reducible assumption | with_reducible refine ch_alloc ?_ _ | with_reducible refine Below.drew ?_ | with_reducible refine below_draws _ ?_ | (with_reducible refine Below.setCell ?_ ?_ _; rotate_left; focus (first | with_reducible exact Nat.le_refl _ | (simp; done) | (simp; omega) | (simp at *; omega))) | with_reducible refine ch_trans ?_ (by with_reducible assumption)))) (Own.new _ _ _) (by omega)).mono ?_; rintro e w1 ⟨rfl, hw1, ht1⟩)
        go_round
        case rel => exact ⟨k + 1, by omega, by go_num, HT.out.trans ((Wt.new (ch_alloc (Below.refl _ _) _) (by omega)).trans ht1), by
          show WIs _ _ _
          rw [← HFL.out]; exact hw1⟩
        case measure => simp [intOf]; omega
    · have hlti : (bs.length : Int) ≤ k := by omega
      have HW' : Hid (WIs wr bw (L ++ bs.map flagN)) := by
        have := HW.out
        rwa [List.take_of_length_le (by omega)] at this
      go_wp2
      go_end0
      exact ⟨rfl, HW'.out, HT.out⟩
end Go.Proofs.YtiijahoheajppaaGreat

namespace Go.Proofs.YtiijahoheajppaaGreat
open Go.ChangeShapes Go.WideShapes Go.ChangeAt Go.RowKit

abbrev one1 (v : Value) : Array Value := #[v]
/-- Rows behind a slice. -/
def RowsV (w : World) (v : Value) (rs : List (List Vc)) : Prop := ∃ a cap xs, v = .slice a rs.length cap ∧ rs.length ≤ cap ∧ cap ≤ maxLen ∧ RowAt w a 1 (List.map one1 xs) ∧ xs.length = rs.length ∧ ∀ i (h : i < xs.length) (g : i < rs.length), ValsV w xs[i] rs[i]
theorem RowsV.on {w w' : World} {v : Value} {rs : List (List Vc)} (h : RowsV w v rs) (b : Below w.heap.size w w') : RowsV w' v rs := by
  obtain ⟨a, cap, xs, e, h1, h2, h3, h4, h5⟩ := h; exact ⟨a, cap, xs, e, h1, h2, h3.on b, h4, fun i h g => (h5 i h g).on b⟩
theorem RowsV.lit {w : World} {v : Value} {rs : List (List Vc)} (h : RowsV w v rs) : ∃ a cap, v = .slice a rs.length cap ∧ rs.length ≤ cap ∧ cap ≤ maxLen ∧ RowsV w (.slice a rs.length cap) rs := by
  obtain ⟨a, cap, xs, rfl, h1, h2, h3⟩ := h; exact ⟨a, cap, rfl, h1, h2, a, cap, xs, rfl, h1, h2, h3⟩
theorem RowsV.rw {w : World} {a : Option Addr} {n cap : Nat} {rs : List (List Vc)} (h : RowsV w (.slice a n cap) rs) (k : Nat) (hk : k < rs.length) : ∃ b off c p, a = some ⟨b, off, none⟩ ∧
    w.cell? ⟨b, off + k, none⟩ = some (.slice c rs[k].length p) ∧ ValsV w (.slice c rs[k].length p) rs[k] := by
  obtain ⟨a', cap', xs, e, h1, h2, h3, h4, h5⟩ := h
  cases e
  rcases h3.2 with h0 | ⟨b, off, ha, h⟩
  · rw [List.map_eq_nil_iff] at h0; subst h0; simp at h4; omega
  · obtain ⟨c, p, ex, _, _, hx⟩ := (h5 k (by omega) hk).lit
    have e0 := h k (by simp; omega) 0 (by omega)
    simp only [List.getElem_map, Nat.mul_one, Nat.add_zero] at e0
    rw [ex] at e0
    exact ⟨b, off, c, p, ha, e0, hx⟩
theorem ValsV.stores {v : Value} {vs : List Vc} {B b : Nat} (hf : From v B) (hb : b < B) : ∀ (us : List Value) (w : World) (o : Nat), ValsV w v vs → ValsV (stores w b o us) v vs
  | [], _, _, h => h
  | u :: r, _, o, h => ValsV.stores hf hb r _ (o + 1) (h.set hf hb u)
/-- Rows copied so far. -/
def Rfill (w : World) (B : Nat) (T : TypeId) (rs : List (List Vc)) (k : Nat) : Prop := ∃ ys, Fill w B T 1 rs.length (List.map one1 ys) ∧ ys.length = k ∧ ∀ i (h : i < ys.length) (g : i < rs.length), ValsV w ys[i] rs[i] ∧ From ys[i] (B + 1)
theorem Rfill.on {w w' : World} {B : Nat} {T : TypeId} {rs : List (List Vc)} {k : Nat} (h : Rfill w B T rs k) (b : Below w.heap.size w w') : Rfill w' B T rs k := by
  obtain ⟨ys, h1, h2, h3⟩ := h
  exact ⟨ys, h1.on b, h2, fun i h g => ⟨(h3 i h g).1.on b, (h3 i h g).2⟩⟩
theorem Rfill.put {w : World} {B : Nat} {T : TypeId} {rs : List (List Vc)} {k : Nat} (h : Rfill w B T rs k) (hk : k < rs.length) {y : Value} (hy : ValsV w y rs[k]) (hf : From y (B + 1)) : Rfill (stores w B k [y]) B T rs (k + 1) := by
  obtain ⟨ys, h1, rfl, h3⟩ := h
  refine ⟨ys ++ [y], ?_, by simp, fun i h g => ?_⟩
  · have := h1.put (by simpa using hk) [y] rfl
    simpa using this
  · by_cases hi : i < ys.length
    · rw [List.getElem_append_left hi]
      exact ⟨ValsV.stores (h3 i hi g).2 (by omega) _ _ _ (h3 i hi g).1, (h3 i hi g).2⟩
    · simp at h
      have : i = ys.length := by omega
      subst this
      simp only [List.getElem_append_right (Nat.le_refl _), Nat.sub_self, List.getElem_cons_zero]
      exact ⟨ValsV.stores hf (by omega) _ _ _ hy, hf⟩
theorem Rfill.done {w : World} {B : Nat} {T : TypeId} {rs : List (List Vc)} (h : Rfill w B T rs rs.length) (hm : rs.length ≤ maxLen) : RowsV w (.slice (some ⟨B, 0, none⟩) rs.length rs.length) rs := by
  obtain ⟨ys, h1, h2, h3⟩ := h
  exact ⟨_, _, ys, rfl, Nat.le_refl _, hm, h1.row, h2, fun i h g => (h3 i h g).1⟩
def rfits (rs : List (List Vc)) : Prop := ∀ r ∈ rs, vfit r
def rfews (rs : List (List Vc)) : Prop := rs.length ≤ 1048576 ∧ ∀ r ∈ rs, r.length ≤ 1048576

end Go.Proofs.YtiijahoheajppaaGreat

namespace Go.Proofs.YtiijahoheajppaaGreat
open Go.ChangeShapes Go.WideShapes Go.ChangeAt Go.RowKit

/-- Tables behind a slice. -/
def TabsV (w : World) (v : Value) (ts : List Tc) : Prop := ∃ a cap xs, v = .slice a ts.length cap ∧ ts.length ≤ cap ∧ cap ≤ maxLen ∧ RowAt w a 3 xs ∧ xs.length = ts.length ∧ ∀ i (h : i < xs.length) (g : i < ts.length), TabV w xs[i] ts[i]
theorem TabsV.on {w w' : World} {v : Value} {ts : List Tc} (h : TabsV w v ts) (b : Below w.heap.size w w') : TabsV w' v ts := by
  obtain ⟨a, cap, xs, e, h1, h2, h3, h4, h5⟩ := h; exact ⟨a, cap, xs, e, h1, h2, h3.on b, h4, fun i h g => (h5 i h g).on b⟩
theorem TabsV.lit {w : World} {v : Value} {ts : List Tc} (h : TabsV w v ts) : ∃ a cap, v = .slice a ts.length cap ∧ ts.length ≤ cap ∧ cap ≤ maxLen := by
  obtain ⟨a, cap, xs, e, h1, h2, _⟩ := h; exact ⟨a, cap, e, h1, h2⟩
theorem TabsV.tab {w : World} {a : Option Addr} {n cap : Nat} {ts : List Tc} (h : TabsV w (.slice a n cap) ts) (k : Nat) (hk : k < ts.length) : ∃ b off c1 p1 c2 p2, a = some ⟨b, off, none⟩ ∧
    w.cell? ⟨b, off + k * 3, none⟩ = some (.string ts[k].name) ∧ w.cell? ⟨b, off + k * 3 + 1, none⟩ = some (.slice c1 ts[k].cols.length p1) ∧ w.cell? ⟨b, off + k * 3 + 2, none⟩ = some (.slice c2 ts[k].keys.length p2) ∧
    TabV w #[.string ts[k].name, .slice c1 ts[k].cols.length p1, .slice c2 ts[k].keys.length p2] ts[k] := by
  obtain ⟨a', cap', xs, e, h1, h2, h3, h4, h5⟩ := h
  cases e
  rcases h3.2 with h0 | ⟨b, off, ha, h⟩
  · subst h0; simp at h4; omega
  · obtain ⟨c1, p1, c2, p2, ex, hx, _⟩ := (h5 k (by omega) hk).lit
    have e0 := h k (by omega) 0 (by omega)
    have e1 := h k (by omega) 1 (by omega)
    have e2 := h k (by omega) 2 (by omega)
    rw [ex] at e0 e1 e2
    exact ⟨b, off, c1, p1, c2, p2, ha, e0, e1, e2, hx⟩
theorem TabV.set {w : World} {x : Array Value} {t : Tc} (h : TabV w x t) {B : Nat} (hf : TabFrom x B) {p : Addr} (hp : p.block < B) (u : Value) : TabV (w.setCell p u) x t := by
  obtain ⟨cv, kv, rfl, hc, hk⟩ := h
  exact ⟨cv, kv, rfl, hc.set (hf cv (by simp)) hp u, hk.set (hf kv (by simp)) hp u⟩
theorem TabV.stores {x : Array Value} {t : Tc} {B b : Nat} (hf : TabFrom x B) (hb : b < B) : ∀ (vs : List Value) (w : World) (o : Nat), TabV w x t → TabV (stores w b o vs) x t
  | [], _, _, h => h
  | v :: r, _, o, h => TabV.stores hf hb r _ (o + 1) (h.set hf hb v)
/-- Tables copied so far. -/
def Tfill (w : World) (B : Nat) (T : TypeId) (ts : List Tc) (k : Nat) : Prop := ∃ ys, Fill w B T 3 ts.length ys ∧ ys.length = k ∧ ∀ i (h : i < ys.length) (g : i < ts.length), TabV w ys[i] ts[i] ∧ TabFrom ys[i] (B + 1)
theorem Tfill.on {w w' : World} {B : Nat} {T : TypeId} {ts : List Tc} {k : Nat} (h : Tfill w B T ts k) (b : Below w.heap.size w w') : Tfill w' B T ts k := by
  obtain ⟨ys, h1, h2, h3⟩ := h
  exact ⟨ys, h1.on b, h2, fun i h g => ⟨(h3 i h g).1.on b, (h3 i h g).2⟩⟩
theorem Tfill.put {w : World} {B : Nat} {T : TypeId} {ts : List Tc} {k : Nat} (h : Tfill w B T ts k) (hk : k < ts.length) {y : Array Value} (hy : TabV w y ts[k]) (hf : TabFrom y (B + 1)) (hz : y.size = 3) : Tfill (stores w B (k * 3) y.toList) B T ts (k + 1) := by
  obtain ⟨ys, h1, rfl, h3⟩ := h
  refine ⟨ys ++ [y], ?_, by simp, fun i h g => ?_⟩
  · have := h1.put hk y.toList (by simpa using hz)
    simpa using this
  · by_cases hi : i < ys.length
    · rw [List.getElem_append_left hi]
      exact ⟨TabV.stores (h3 i hi g).2 (by omega) _ _ _ (h3 i hi g).1, (h3 i hi g).2⟩
    · simp at h
      have : i = ys.length := by omega
      subst this
      simp only [List.getElem_append_right (Nat.le_refl _), Nat.sub_self, List.getElem_cons_zero]
      exact ⟨TabV.stores hf (by omega) _ _ _ hy, hf⟩
/-- The tables' own rows, and the tables', lie from block B on. -/
def TabsFrom (w : World) (v : Value) (B : Nat) : Prop := From v B ∧ ∀ a n cap, v = .slice (some a) n cap → ∀ i, i < n → ∀ j, j < 3 → ∀ u, w.cell? ⟨a.block, a.off + i * 3 + j, none⟩ = some u → From u B
theorem Tfill.done {w : World} {B : Nat} {T : TypeId} {ts : List Tc} (h : Tfill w B T ts ts.length) (hm : ts.length ≤ maxLen) : TabsV w (.slice (some ⟨B, 0, none⟩) ts.length ts.length) ts ∧ TabsFrom w (.slice (some ⟨B, 0, none⟩) ts.length ts.length) B := by
  obtain ⟨ys, h1, h2, h3⟩ := h
  refine ⟨⟨_, _, ys, rfl, Nat.le_refl _, hm, h1.row, h2, fun i h g => (h3 i h g).1⟩, from_new _ _ _, ?_⟩
  rintro a n cap e i hi j hj u hu
  cases e
  obtain ⟨hz, h0 | ⟨b, off, e, hr⟩⟩ := h1.row
  · subst h0; simp at h2; omega
  · cases e
    have hs := hz ys[i] (List.getElem_mem (by omega))
    rw [hr i (by omega) j hj, Array.getElem?_eq_getElem (by omega)] at hu
    cases hu
    exact ((h3 i (by omega) hi).2 _ (by simp)).mono (by omega)
/-- Tables behind a slice, in memory from block B on. -/
def TabsN (w : World) (v : Value) (ts : List Tc) (B : Nat) : Prop := TabsV w v ts ∧ TabsFrom w v B
theorem TabsN.on {w w' : World} {v : Value} {ts : List Tc} {B : Nat} (h : TabsN w v ts B) (k : Below w.heap.size w w') : TabsN w' v ts B := by
  refine ⟨h.1.on k, h.2.1, fun a n cap e i hi j hj u hu => h.2.2 a n cap e i hi j hj u ?_⟩
  obtain ⟨a', cap', xs, e', h1, h2, h3, h4, h5⟩ := h.1
  subst e
  cases e'
  rcases h3.2 with h0 | ⟨b, off, e, hr⟩
  · subst h0; simp at h4; omega
  · cases e
    have hs := h3.1 xs[i] (List.getElem_mem (by omega))
    have hc := hr i (by omega) j hj
    rw [Array.getElem?_eq_getElem (by omega)] at hc
    rw [← hu]
    exact (k.cell (p := ⟨b, off + i * 3 + j, none⟩) (cell_lt hc)).symm
theorem TabsN.set {w : World} {v : Value} {ts : List Tc} {B : Nat} (h : TabsN w v ts B) {p : Addr} (hp : p.block < B) (u : Value) : TabsN (w.setCell p u) v ts B := by
  obtain ⟨⟨a, cap, xs, rfl, h1, h2, h3, h4, h5⟩, hf1, hf2⟩ := h
  have hne : ∀ q, a = some q → q.block ≠ p.block := fun q hq => by subst hq; have := hf1 _ _ _ rfl; omega
  refine ⟨⟨a, cap, xs, rfl, h1, h2, h3.set hne u, h4, fun i h g => ?_⟩, hf1, fun a' n cap' e i hi j hj x hx => ?_⟩
  · refine (h5 i h g).set (B := B) (fun y hy => ?_) hp u
    rcases h3.2 with h0 | ⟨b, off, e, hr⟩
    · subst h0; simp at h
    · subst e
      obtain ⟨j, hj, rfl⟩ := List.getElem_of_mem hy
      have hs := h3.1 xs[i] (List.getElem_mem h)
      have hj' : j < 3 := by simpa [hs] using hj
      have hc := hr i h j hj'
      rw [Array.getElem?_eq_getElem (by omega)] at hc
      exact hf2 _ _ _ rfl i g j hj' _ (by simpa using hc)
  · cases e
    refine hf2 _ _ _ rfl i hi j hj x ?_
    rw [← hx]
    exact (World.cell?_of_block (w := w) (a := ⟨a'.block, a'.off + i * 3 + j, none⟩) (Below.heap_setCell _ _ _ a'.block (hne a' rfl))).symm
theorem TabsN.mono {w : World} {v : Value} {ts : List Tc} {B B' : Nat} (h : TabsN w v ts B) (hB : B' ≤ B) : TabsN w v ts B' := ⟨h.1, h.2.1.mono hB, fun a n cap e i hi j hj u hu => (h.2.2 a n cap e i hi j hj u hu).mono hB⟩
def fits (ts : List Tc) : Prop := ∀ t ∈ ts, t.fit
def fews (ts : List Tc) : Prop := ts.length ≤ 1048576 ∧ ∀ t ∈ ts, t.few

end Go.Proofs.YtiijahoheajppaaGreat
