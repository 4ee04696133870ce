/- Whether what comes with some names fits a table: landed and given. -/
import Derived.Test.YtiijahoheajppaaDdOkI
import Derived.Test.YtiijahoheajppaaDdOkI
import Derived.Test.YtiijahoheajppaaWm
namespace Go.Proofs.Ytiijahoheajppaa
open Go.ChangeShapes Go.WideShapes Go.ChangeAt Go.RowKit

theorem boolOf (P : Prop) : ∃ q : Bool, (q = true ↔ P) := by
  classical
  exact ⟨decide P, by simp⟩
theorem bool_same {P : Prop} {a b : Bool} (h : a = true ↔ P) (h' : b = true ↔ P) : a = b := by
  cases a <;> cases b <;> simp_all
/-- A column that nothing comes for, and that nothing stands for. -/
def lacks (cols : List ByteArray) (c : Cl) : Prop := c.nt = true ∧ c.has = false ∧ c.name ∉ cols
def drift1 (cols keys : List ByteArray) (t : Tc) : Prop := t.right ∧ cols.Nodup ∧ keys.Nodup ∧ ∀ s ∈ keys, s ∈ cols
def drift2 (cols : List ByteArray) (t : Tc) : Prop := ∀ s ∈ cols, s ∈ colNames t
def drift3 (keys : List ByteArray) (t : Tc) : Prop := (∀ s ∈ keys, s ∈ t.keys) ∧ ∀ s ∈ t.keys, s ∈ keys
def drift4 (cols : List ByteArray) (t : Tc) : Prop := ∀ k (h : k < t.cols.length), ¬ lacks cols t.cols[k]
/-- The code that is told. -/
def isDrift (cols keys : List ByteArray) (t : Tc) (r : Int) : Prop :=
  (¬ drift1 cols keys t ∧ r = 1) ∨ (drift1 cols keys t ∧ ((¬ drift2 cols t ∧ r = 11) ∨ (drift2 cols t ∧ ((¬ drift3 keys t ∧ r = 12) ∨ (drift3 keys t ∧ ((¬ drift4 cols t ∧ r = 13) ∨ (drift4 cols t ∧ r = 0)))))))
theorem isDrift.unique {cols keys : List ByteArray} {t : Tc} {a b : Int} (h : isDrift cols keys t a) (h' : isDrift cols keys t b) : a = b := by
  unfold isDrift at h h'
  rcases h with ⟨h1, rfl⟩ | ⟨h1, ⟨h2, rfl⟩ | ⟨h2, ⟨h3, rfl⟩ | ⟨h3, ⟨h4, rfl⟩ | ⟨h4, rfl⟩⟩⟩⟩ <;> rcases h' with ⟨g1, rfl⟩ | ⟨g1, ⟨g2, rfl⟩ | ⟨g2, ⟨g3, rfl⟩ | ⟨g3, ⟨g4, rfl⟩ | ⟨g4, rfl⟩⟩⟩⟩ <;> first | rfl | contradiction

set_option maxRecDepth 100000 in
set_option maxHeartbeats 2000000 in
/-- impl.Drift -/
theorem drift_impl (x : Array Value) (cv kv : Value) (cols keys : List ByteArray) (t : Tc) (w : World) (hx : TabV w x t) (hc : StrsV w cv cols) (hk : StrsV w kv keys) (hf : t.fit) (hn : t.few) (hcf : ∀ s ∈ cols, s.size ≤ maxLen) (hkf : ∀ s ∈ keys, s.size ≤ maxLen) :
    Calls Try.prog 11 #[cv, kv, .agg x] w fun e w' => ∃ r : Int, e = .returned (.int .i64 r) ∧ isDrift cols keys t r ∧ Below w.heap.size w w' := by
  obtain ⟨a, p, o, z, rfl, hx, hcs, hks⟩ := hx.lit
  obtain ⟨qt, hqt⟩ := boolOf t.right
  obtain ⟨q2, hq2⟩ := boolOf (¬ cols.Nodup)
  obtain ⟨q3, hq3⟩ := boolOf (¬ keys.Nodup)
  obtain ⟨q4, hq4⟩ := boolOf (∀ s ∈ keys, s ∈ cols)
  obtain ⟨q5, hq5⟩ := boolOf (∀ s ∈ cols, s ∈ colNames t)
  obtain ⟨q6, hq6⟩ := boolOf (keys.length = t.keys.length ∧ ∀ s ∈ keys, s ∈ t.keys)
  have HQ : Hid ((qt = true ↔ t.right) ∧ (q2 = true ↔ ¬ cols.Nodup) ∧ (q3 = true ↔ ¬ keys.Nodup) ∧ (q4 = true ↔ ∀ s ∈ keys, s ∈ cols) ∧ (q5 = true ↔ ∀ s ∈ cols, s ∈ colNames t) ∧ (q6 = true ↔ (keys.length = t.keys.length ∧ ∀ s ∈ keys, s ∈ t.keys))) := ⟨hqt, hq2, hq3, hq4, hq5, hq6⟩
  have HP : Hid (∀ u : World, Below w.heap.size w u → Calls Try.prog 35 #[cv] u fun e w' => ∃ b, e = .returned (.map (some b)) ∧ u.heap.size ≤ b ∧ Below u.heap.size u w' ∧ MapIs Try.prog 9 w' b cols.length (nplist cols cols.length)) := fun u hu => placesOf_any cv cols u (hc.on hu) hcf
  have HT : Hid (∀ u : World, Below w.heap.size w u → Calls Try.prog 36 #[.agg #[.string t.name, .slice a t.cols.length p, .slice o t.keys.length z]] u fun e w' => e = .returned (.bool qt) ∧ Below u.heap.size u w') := fun u hu => (tableOk_impl _ t u (hx.on hu) hf).mono fun e w' ⟨q, h1, h2, h3⟩ => ⟨by rw [h1, bool_same h2 hqt], h3⟩
  have H2 : Hid (∀ u : World, Below w.heap.size w u → Calls Try.prog 37 #[cv] u fun e w' => e = .returned (.bool q2) ∧ Below u.heap.size u w') := fun u hu => (comesTwice_any cv cols u (hc.on hu) hcf).mono fun e w' ⟨q, h1, h2, h3⟩ => ⟨by rw [h1, bool_same h2 hq2], h3⟩
  have H3 : Hid (∀ u : World, Below w.heap.size w u → Calls Try.prog 37 #[kv] u fun e w' => e = .returned (.bool q3) ∧ Below u.heap.size u w') := fun u hu => (comesTwice_any kv keys u (hk.on hu) hkf).mono fun e w' ⟨q, h1, h2, h3⟩ => ⟨by rw [h1, bool_same h2 hq3], h3⟩
  have H4 : Hid (∀ (u : World) (b : Nat), Below w.heap.size w u → MapIs Try.prog 9 u b cols.length (nplist cols cols.length) → Calls Try.prog 38 #[.map (some b), kv] u fun e w' => e = .returned (.bool q4) ∧ Below u.heap.size u w') := fun u b hu hm => (haveAll_any b _ kv cols keys u hm (hk.on hu) hkf).mono fun e w' ⟨q, h1, h2, h3⟩ => ⟨by rw [h1, bool_same h2 hq4], h3⟩
  have HN : Hid (∀ u : World, Below w.heap.size w u → Calls Try.prog 39 #[.agg #[.string t.name, .slice a t.cols.length p, .slice o t.keys.length z]] u fun e w' => ∃ v, e = .returned v ∧ Below u.heap.size u w' ∧ Got w' u.heap.size 9 1 v ((colNames t).map strX)) := fun u hu => colNames_any _ t u (hx.on hu) hn.1
  have HNF : Hid (∀ s ∈ colNames t, s.size ≤ maxLen) := fun s hs => by
    obtain ⟨c, hc, rfl⟩ := List.mem_map.1 hs
    exact (hf.2.1 c hc).1
  have H5 : Hid (∀ (u : World) (b n : Nat), Below w.heap.size w u → MapIs Try.prog 9 u b n (nplist (colNames t) (colNames t).length) → Calls Try.prog 38 #[.map (some b), cv] u fun e w' => e = .returned (.bool q5) ∧ Below u.heap.size u w') := fun u b n hu hm => (haveAll_any b _ cv (colNames t) cols u hm (hc.on hu) hcf).mono fun e w' ⟨q, h1, h2, h3⟩ => ⟨by rw [h1, bool_same h2 hq5], h3⟩
  have H6 : Hid (∀ u : World, Below w.heap.size w u → Calls Try.prog 40 #[kv, .slice o t.keys.length z] u fun e w' => e = .returned (.bool q6) ∧ Below u.heap.size u w') := fun u hu => (justThese_any kv _ keys t.keys u (hk.on hu) (hks.on hu) hkf hf.2.2).mono fun e w' ⟨q, h1, h2, h3⟩ => ⟨by rw [h1, bool_same h2 hq6], h3⟩
  have HFN : Hid (∀ c ∈ t.cols, c.name.size ≤ maxLen) := fun c hc => (hf.2.1 c hc).1
  have HR : Hid (RowAt w a 7 (t.cols.map Cl.cells)) := by obtain ⟨_, _, e, _, _, h⟩ := hcs; cases e; exact h
  have hp : t.cols.length ≤ p ∧ p ≤ 2 ^ 63 - 1 := by obtain ⟨_, _, e, h1, h2, h⟩ := hcs; cases e; exact ⟨h1, h2⟩
  have HL := Loc.new w #[.string t.name, .slice a t.cols.length p, .slice o t.keys.length z] 32
  have hb0 : Below w.heap.size w (w.alloc (.cells #[.string t.name, .slice a t.cols.length p, .slice o t.keys.length z] 32)) := (by repeat (first | with_reducible exact Below.refl _ _ | with_reducible assumption | with_reducible refine ch_alloc ?_ _ | with_reducible refine Below.drew ?_ | with_reducible refine below_draws _ ?_ | (with_reducible refine Below.setCell ?_ ?_ _; rotate_left; focus (first | with_reducible exact Nat.le_refl _ | (simp; done) | (simp; omega) | (simp at *; omega))) | with_reducible refine ch_trans ?_ (by with_reducible assumption)))
  clear hx hcs hks hc hk hf hn hcf hkf hqt hq2 hq3 hq4 hq5 hq6
  go_enter Try.func11, Try.ntmps11
  go_wp2_with fail
  refine (HP.out _ hb0).mono ?_
  rintro e w1 ⟨b, rfl, hbb, b1, hm⟩
  have HM1 : Hid (MapIs Try.prog 9 w1 b cols.length (nplist cols cols.length)) := hm
  have HL1 := HL.on b1
  have hb1 := ch_trans hb0 b1
  have hbl := hm.lt
  clear hm HL HP b1 hb0
  obtain ⟨l0, l1, l2⟩ := HL1.three
  go_wp2_with fail
  refine (HT.out _ hb1).mono ?_
  rintro e w2 ⟨rfl, b2⟩
  have HL2 := HL1.on b2
  have hb2 := ch_trans hb1 b2
  have HM2 : Hid (MapIs Try.prog 9 w2 b cols.length (nplist cols cols.length)) := HM1.out.on b2 hbl
  clear l0 l1 l2 HT HL1 HM1
  obtain ⟨l0, l1, l2⟩ := HL2.three
  cases qt
  · have HI : Hid (isDrift cols keys t 1) := Or.inl ⟨fun h => (by have := HQ.out.1.2 h.1; cases this), rfl⟩
    go_wp2
    go_ret
    exact ⟨_, rfl, HI.out, hb2⟩
  go_wp2_with fail
  refine (H2.out _ hb2).mono ?_
  rintro e w3 ⟨rfl, b3⟩
  have HL3 := HL2.on b3
  have hb3 := ch_trans hb2 b3
  have HM3 : Hid (MapIs Try.prog 9 w3 b cols.length (nplist cols cols.length)) := HM2.out.on (b3.mono (by have := b2.size; omega)) hbl
  clear l0 l1 l2 H2 HL2 HM2 b2
  obtain ⟨l0, l1, l2⟩ := HL3.three
  cases q2
  rotate_left
  · have HI : Hid (isDrift cols keys t 1) := Or.inl ⟨fun h => HQ.out.2.1.1 (by trivial) h.2.1, rfl⟩
    go_wp2
    go_ret
    exact ⟨_, rfl, HI.out, hb3⟩
  go_wp2_with fail
  refine (H3.out _ hb3).mono ?_
  rintro e w4 ⟨rfl, b4⟩
  have HL4 := HL3.on b4
  have hb4 := ch_trans hb3 b4
  have HM4 : Hid (MapIs Try.prog 9 w4 b cols.length (nplist cols cols.length)) := HM3.out.on b4 HM3.out.lt
  clear l0 l1 l2 H3 HL3 HM3 b3
  obtain ⟨l0, l1, l2⟩ := HL4.three
  cases q3
  rotate_left
  · have HI : Hid (isDrift cols keys t 1) := Or.inl ⟨fun h => HQ.out.2.2.1.1 (by trivial) h.2.2.1, rfl⟩
    go_wp2
    go_ret
    exact ⟨_, rfl, HI.out, hb4⟩
  go_wp2_with fail
  refine (H4.out _ _ hb4 HM4.out).mono ?_
  rintro e w5 ⟨rfl, b5⟩
  have HL5 := HL4.on b5
  have hb5 := ch_trans hb4 b5
  have HM5 : Hid (MapIs Try.prog 9 w5 b cols.length (nplist cols cols.length)) := HM4.out.on b5 HM4.out.lt
  clear l0 l1 l2 H4 HL4 HM4 b4
  obtain ⟨l0, l1, l2⟩ := HL5.three
  cases q4
  · have HI : Hid (isDrift cols keys t 1) := Or.inl ⟨fun h => (by have := HQ.out.2.2.2.1.2 h.2.2.2; cases this), rfl⟩
    go_wp2
    go_ret
    exact ⟨_, rfl, HI.out, hb5⟩
  have HD1 : Hid (drift1 cols keys t) := ⟨HQ.out.1.1 (by trivial), Classical.byContradiction fun h => (by have := HQ.out.2.1.2 h; cases this), Classical.byContradiction fun h => (by have := HQ.out.2.2.1.2 h; cases this), HQ.out.2.2.2.1.1 (by trivial)⟩
  go_wp2_with fail
  refine (HN.out _ hb5).mono ?_
  rintro e w6 ⟨v6, rfl, b6, hg6⟩
  have hs6 := hg6.strs
  have HL6 := HL5.on b6
  have hb6 := ch_trans hb5 b6
  have HM6 : Hid (MapIs Try.prog 9 w6 b cols.length (nplist cols cols.length)) := HM5.out.on b6 HM5.out.lt
  have HP6 := placesOf_any v6 (colNames t) w6 hs6 HNF.out
  clear l0 l1 l2 HN HL5 HM5 b5 hg6 hs6
  obtain ⟨l0, l1, l2⟩ := HL6.three
  go_wp2_with fail
  refine HP6.mono ?_
  rintro e w7 ⟨b', rfl, _, b7, hm7⟩
  have HL7 := HL6.on b7
  have hb7 := ch_trans hb6 b7
  have HM7 : Hid (MapIs Try.prog 9 w7 b cols.length (nplist cols cols.length)) := HM6.out.on b7 HM6.out.lt
  have HN7 : Hid (MapIs Try.prog 9 w7 b' (colNames t).length (nplist (colNames t) (colNames t).length)) := hm7
  clear l0 l1 l2 HP6 HL6 HM6 b6 hm7
  obtain ⟨l0, l1, l2⟩ := HL7.three
  go_wp2_with fail
  refine (H5.out _ _ _ hb7 HN7.out).mono ?_
  rintro e w8 ⟨rfl, b8⟩
  have HL8 := HL7.on b8
  have hb8 := ch_trans hb7 b8
  have HM8 : Hid (MapIs Try.prog 9 w8 b cols.length (nplist cols cols.length)) := HM7.out.on b8 HM7.out.lt
  clear l0 l1 l2 H5 HL7 HM7 HN7 b7
  obtain ⟨l0, l1, l2⟩ := HL8.three
  cases q5
  · have HI : Hid (isDrift cols keys t 11) := Or.inr ⟨HD1.out, Or.inl ⟨fun h => (by have := HQ.out.2.2.2.2.1.2 h; cases this), rfl⟩⟩
    go_wp2
    go_ret
    exact ⟨_, rfl, HI.out, hb8⟩
  have HD2 : Hid (drift2 cols t) := HQ.out.2.2.2.2.1.1 (by trivial)
  go_wp2_with fail
  refine (H6.out _ hb8).mono ?_
  rintro e w9 ⟨rfl, b9⟩
  have HL9 := HL8.on b9
  have hb9 := ch_trans hb8 b9
  have HM9 : Hid (MapIs Try.prog 9 w9 b cols.length (nplist cols cols.length)) := HM8.out.on b9 HM8.out.lt
  clear l0 l1 l2 H6 HL8 HM8 b8 b9
  obtain ⟨l0, l1, l2⟩ := HL9.three
  have HS : Hid (drift3 keys t ↔ (keys.length = t.keys.length ∧ ∀ s ∈ keys, s ∈ t.keys)) := (same_names keys t.keys HD1.out.2.2.1 (keys_nodup HD1.out.1)).symm
  cases q6
  · have HI : Hid (isDrift cols keys t 12) := Or.inr ⟨HD1.out, Or.inr ⟨HD2.out, Or.inl ⟨fun h => (by have := HQ.out.2.2.2.2.2.2 (HS.out.1 h); cases this), rfl⟩⟩⟩
    go_wp2
    go_ret
    exact ⟨_, rfl, HI.out, hb9⟩
  have HD3 : Hid (drift3 keys t) := HS.out.2 (HQ.out.2.2.2.2.2.1 (by trivial))
  have HOK : Hid (∀ k (h : k < t.cols.length), t.cols[k].ok = true) := HD1.out.1.2.2.2.2.1
  clear HQ HS
  have hbb9 := HM9.out.lt
  go_wp2
  go_loopw [48] (fun i wr => ∃ k : Nat, k ≤ t.cols.length ∧ i = .int .i64 k ∧ Below w9.heap.size w9 wr ∧ Hid (∀ j (h : j < t.cols.length), j < k → ¬ lacks cols t.cols[j])) (fun i _ => t.cols.length - (intOf i).toNat)
  case atStart => exact ⟨0, Nat.zero_le _, rfl, Below.refl _ _, fun j h hj => by omega⟩
  case round =>
    obtain ⟨k, hk, rfl, hb, HN⟩ := hrel
    have hbw := ch_trans hb9 hb
    by_cases hlt : k < t.cols.length
    · have hlti : (k : Int) < t.cols.length := by omega
      obtain ⟨cb, off, rfl, c0, c1, c2, c3, c4, c5, c6⟩ := (HR.out.on hbw).cols k hlt
      have hM := HM9.out.on (hb.trans (ch_alloc (Below.refl wr.heap.size wr) (.cells #[.string t.cols[k].name, .int .i64 t.cols[k].ty, .bool t.cols[k].nt, .bool t.cols[k].has, .int .i64 t.cols[k].dt, .int .i64 t.cols[k].dn, .string t.cols[k].ds] 60)|>.mono hb.size)) hbb9
      have hsz := HFN.out _ (List.getElem_mem hlt)
      have HA := HOK.out k hlt
      rcases nplist_at cols t.cols[k].name with ⟨h1, _, h2⟩ | ⟨i, hi, h1, _, h2⟩
      · have hlook := hM.look_no Try.underlying9 Try.underlying64 (zeroI _) hsz h2
        have hw1 : Below wr.heap.size wr (wr.alloc (.cells #[.string t.cols[k].name, .int .i64 t.cols[k].ty, .bool t.cols[k].nt, .bool t.cols[k].has, .int .i64 t.cols[k].dt, .int .i64 t.cols[k].dn, .string t.cols[k].ds] 60)) := ch_alloc (Below.refl _ _) _
        have HLT : Hid (Calls Try.prog 41 #[t.cols[k].v] (wr.alloc (.cells #[.string t.cols[k].name, .int .i64 t.cols[k].ty, .bool t.cols[k].nt, .bool t.cols[k].has, .int .i64 t.cols[k].dt, .int .i64 t.cols[k].dn, .string t.cols[k].ds] 60)) fun e w' => e = .returned (.bool (t.cols[k].has || !t.cols[k].nt)) ∧ Below (wr.alloc (.cells #[.string t.cols[k].name, .int .i64 t.cols[k].ty, .bool t.cols[k].nt, .bool t.cols[k].has, .int .i64 t.cols[k].dt, .int .i64 t.cols[k].dn, .string t.cols[k].ds] 60)).heap.size (wr.alloc (.cells #[.string t.cols[k].name, .int .i64 t.cols[k].ty, .bool t.cols[k].nt, .bool t.cols[k].has, .int .i64 t.cols[k].dt, .int .i64 t.cols[k].dn, .string t.cols[k].ds] 60)) w') := (later_any t.cols[k] _ hsz).mono fun e w' ⟨h1, h2⟩ => ⟨by rw [h1, HA, Bool.true_and], h2⟩
        have HNI : Hid (t.cols[k].name ∉ cols) := h1
        have HEQ : Hid (lacks cols t.cols[k] ↔ (t.cols[k].has || !t.cols[k].nt) = false) := by
          show _ ↔ _
          unfold lacks
          rw [Bool.or_eq_false_iff]
          simp [h1]
          exact ⟨fun h => ⟨h.2, h.1⟩, fun h => ⟨h.2, h.1⟩⟩
        clear h1 h2 hM hsz HA
        generalize (t.cols[k].has || !t.cols[k].nt) = qq at HLT HEQ
        go_wp2_with fail
        refine HLT.out.mono ?_
        rintro e w10 ⟨rfl, b10⟩
        have hb10 : Below w9.heap.size w9 w10 := hb.trans ((ch_trans hw1 b10).mono hb.size)
        clear HLT b10 hw1
        cases qq
        · have HI : Hid (isDrift cols keys t 13) := Or.inr ⟨HD1.out, Or.inr ⟨HD2.out, Or.inr ⟨HD3.out, Or.inl ⟨fun h => h k hlt (HEQ.out.2 rfl), rfl⟩⟩⟩⟩
          go_wp2
          go_ret
          exact ⟨_, rfl, HI.out, ch_trans hb9 hb10⟩
        · have HN' : Hid (∀ j (h : j < t.cols.length), j < k + 1 → ¬ lacks cols t.cols[j]) := fun j h hj => by
            by_cases e : j = k
            · subst e; exact fun h => (by have := HEQ.out.1 h; cases this)
            · exact HN.out j h (by omega)
          go_wp2
          go_round
          case rel => exact ⟨k + 1, by omega, by go_num, hb10, HN'⟩
          case measure => simp [intOf]; omega
      · have hlook : _ = Result.ok (Value.tuple #[.int .i64 (i : Int), .bool true]) _ := hM.look_yes Try.underlying9 Try.underlying64 (zeroI _) hsz h2
        have HN' : Hid (∀ j (h : j < t.cols.length), j < k + 1 → ¬ lacks cols t.cols[j]) := fun j h hj => by
          by_cases e : j = k
          · subst e; exact fun h => h.2.2 (by rw [← h1]; exact List.getElem_mem hi)
          · exact HN.out j h (by omega)
        have hb10 : Below w9.heap.size w9 (wr.alloc (.cells #[.string t.cols[k].name, .int .i64 t.cols[k].ty, .bool t.cols[k].nt, .bool t.cols[k].has, .int .i64 t.cols[k].dt, .int .i64 t.cols[k].dn, .string t.cols[k].ds] 60)) := hb.trans ((ch_alloc (Below.refl _ _) _).mono hb.size)
        clear h1 h2 hM hsz HA
        go_wp2
        go_round
        case rel => exact ⟨k + 1, by omega, by go_num, hb10, HN'⟩
        case measure => simp [intOf]; omega
    · have hlti : (t.cols.length : Int) ≤ k := by omega
      have HI : Hid (isDrift cols keys t 0) := Or.inr ⟨HD1.out, Or.inr ⟨HD2.out, Or.inr ⟨HD3.out, Or.inr ⟨fun j h => HN.out j h (by omega), rfl⟩⟩⟩⟩
      go_wp2
      go_ret
      exact ⟨_, rfl, HI.out, hbw⟩
end Go.Proofs.Ytiijahoheajppaa
