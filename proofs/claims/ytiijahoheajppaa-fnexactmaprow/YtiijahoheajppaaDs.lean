/- Whether what comes with some names fits a table: given. -/
import Derived.Test.YtiijahoheajppaaDr
namespace Go.Proofs.Ytiijahoheajppaa
open Go.ChangeShapes Go.WideShapes Go.ChangeAt Go.RowKit

set_option maxRecDepth 100000 in
set_option maxHeartbeats 2000000 in
/-- spec.Drift -/
theorem drift_spec (x : Array Value) (cv kv : Value) (cols keys : List ByteArray) (t : Tc) (w : World) (hx : TabV w x t) (hc : StrsV w cv cols) (hk : StrsV w kv keys) (hf : t.fit) :
    Calls Try.prog 8 #[cv, kv, .agg x] w fun e w' => ∃ r : Int, e = .returned (.int .i64 r) ∧ isDrift cols keys t r ∧ Below w.heap.size w w' := by
  obtain ⟨a, p, o, z, rfl, hx, hcs, hks⟩ := hx.lit
  obtain ⟨qt, hqt⟩ := boolOf t.right
  obtain ⟨q2, hq2⟩ := boolOf cols.Nodup
  obtain ⟨q3, hq3⟩ := boolOf keys.Nodup
  obtain ⟨q4, hq4⟩ := boolOf (∀ s ∈ keys, s ∈ cols)
  obtain ⟨q5, hq5⟩ := boolOf (∀ s ∈ keys, s ∈ t.keys)
  obtain ⟨q6, hq6⟩ := boolOf (∀ s ∈ t.keys, s ∈ keys)
  have HQ : Hid ((qt = true ↔ t.right) ∧ (q2 = true ↔ cols.Nodup) ∧ (q3 = true ↔ keys.Nodup) ∧ (q4 = true ↔ ∀ s ∈ keys, s ∈ cols) ∧ (q5 = true ↔ ∀ s ∈ keys, s ∈ t.keys) ∧ (q6 = true ↔ ∀ s ∈ t.keys, s ∈ keys)) := ⟨hqt, hq2, hq3, hq4, hq5, hq6⟩
  have HT : Hid (∀ u : World, Below w.heap.size w u → Calls Try.prog 29 #[.agg #[.string t.name, .slice a t.cols.length p, .slice o t.keys.length z]] u fun e w' => e = .returned (.bool qt) ∧ Below u.heap.size u w') := fun u hu => (tableOk_spec _ t u (hx.on hu) hf).mono fun e w' ⟨q, h1, h2, h3⟩ => ⟨by rw [h1, bool_same h2 hqt], h3⟩
  have H2 : Hid (∀ u : World, Below w.heap.size w u → Calls Try.prog 30 #[cv] u fun e w' => e = .returned (.bool q2) ∧ Below u.heap.size u w') := fun u hu => (l10Once_any cv cols u (hc.on hu)).mono fun e w' ⟨q, h1, h2, h3⟩ => ⟨by rw [h1, bool_same h2 hq2], h3⟩
  have H3 : Hid (∀ u : World, Below w.heap.size w u → Calls Try.prog 30 #[kv] u fun e w' => e = .returned (.bool q3) ∧ Below u.heap.size u w') := fun u hu => (l10Once_any kv keys u (hk.on hu)).mono fun e w' ⟨q, h1, h2, h3⟩ => ⟨by rw [h1, bool_same h2 hq3], h3⟩
  have H4 : Hid (∀ u : World, Below w.heap.size w u → Calls Try.prog 31 #[kv, cv] u fun e w' => e = .returned (.bool q4) ∧ Below u.heap.size u w') := fun u hu => (l10All_any kv cv keys cols u (hk.on hu) (hc.on hu)).mono fun e w' ⟨q, h1, h2, h3⟩ => ⟨by rw [h1, bool_same h2 hq4], h3⟩
  have H5 : Hid (∀ u : World, Below w.heap.size w u → Calls Try.prog 31 #[kv, .slice o t.keys.length z] u fun e w' => e = .returned (.bool q5) ∧ Below u.heap.size u w') := fun u hu => (l10All_any kv _ keys t.keys u (hk.on hu) (hks.on hu)).mono fun e w' ⟨q, h1, h2, h3⟩ => ⟨by rw [h1, bool_same h2 hq5], h3⟩
  have H6 : Hid (∀ u : World, Below w.heap.size w u → Calls Try.prog 31 #[.slice o t.keys.length z, kv] u fun e w' => e = .returned (.bool q6) ∧ Below u.heap.size u w') := fun u hu => (l10All_any _ kv t.keys keys u (hks.on hu) (hk.on hu)).mono fun e w' ⟨q, h1, h2, h3⟩ => ⟨by rw [h1, bool_same h2 hq6], h3⟩
  have HCA : Hid (∀ (u : World) (s : ByteArray), Below w.heap.size w u → Calls Try.prog 32 #[.agg #[.string t.name, .slice a t.cols.length p, .slice o t.keys.length z], .string s] u fun e w' => e = .returned (.int .i64 (colAt t.cols s)) ∧ Below u.heap.size u w') := fun u s hu => colAt_spec _ _ _ t.cols s u (hcs.on hu)
  have HHA : Hid (∀ (u : World) (s : ByteArray), Below w.heap.size w u → Calls Try.prog 33 #[cv, .string s] u fun e w' => ∃ q : Bool, e = .returned (.bool q) ∧ (q = true ↔ s ∈ cols) ∧ Below u.heap.size u w') := fun u s hu => l02HasN_any cv cols s u (hc.on hu)
  have HR : Hid (RowAt w a 7 (t.cols.map Cl.cells)) := by obtain ⟨_, _, e, _, _, h⟩ := hcs; cases e; exact h
  have hp : t.cols.length ≤ p ∧ p ≤ 2 ^ 63 - 1 := by obtain ⟨_, _, e, h1, h2, h⟩ := hcs; cases e; exact ⟨h1, h2⟩
  obtain ⟨ac, pc, rfl, hcl, hcm, hcr⟩ := hc
  unfold maxLen at hcm
  have HCR : Hid (RowAt w ac 1 (cols.map strX)) := hcr
  have HL := Loc.new w #[.string t.name, .slice a t.cols.length p, .slice o t.keys.length z] 32
  have hb0 : Below w.heap.size w (w.alloc (.cells #[.string t.name, .slice a t.cols.length p, .slice o t.keys.length z] 32)) := (by repeat (first | with_reducible exact Below.refl _ _ | with_reducible assumption | with_reducible refine ch_alloc ?_ _ | with_reducible refine Below.drew ?_ | with_reducible refine below_draws _ ?_ | (with_reducible refine Below.setCell ?_ ?_ _; rotate_left; focus (first | with_reducible exact Nat.le_refl _ | (simp; done) | (simp; omega) | (simp at *; omega))) | with_reducible refine ch_trans ?_ (by with_reducible assumption)))
  clear hx hcs hks hk hf hqt hq2 hq3 hq4 hq5 hq6 hcr
  obtain ⟨l0, l1, l2⟩ := HL.three
  go_enter Try.func8, Try.ntmps8
  go_wp2_with fail
  refine (HT.out _ hb0).mono ?_
  rintro e w2 ⟨rfl, b2⟩
  have HL2 := HL.on b2
  have hb2 := ch_trans hb0 b2
  clear l0 l1 l2 HT HL b2 hb0
  obtain ⟨l0, l1, l2⟩ := HL2.three
  cases qt
  · have HI : Hid (isDrift cols keys t 1) := Or.inl ⟨fun h => (by have := HQ.out.1.2 h.1; cases this), rfl⟩
    go_wp2
    go_ret
    exact ⟨_, rfl, HI.out, hb2⟩
  go_wp2_with fail
  refine (H2.out _ hb2).mono ?_
  rintro e w3 ⟨rfl, b3⟩
  have HL3 := HL2.on b3
  have hb3 := ch_trans hb2 b3
  clear l0 l1 l2 H2 HL2 hb2 b3
  obtain ⟨l0, l1, l2⟩ := HL3.three
  cases q2
  · have HI : Hid (isDrift cols keys t 1) := Or.inl ⟨fun h => (by have := HQ.out.2.1.2 h.2.1; cases this), rfl⟩
    go_wp2
    go_ret
    exact ⟨_, rfl, HI.out, hb3⟩
  go_wp2_with fail
  refine (H3.out _ hb3).mono ?_
  rintro e w4 ⟨rfl, b4⟩
  have HL4 := HL3.on b4
  have hb4 := ch_trans hb3 b4
  clear l0 l1 l2 H3 HL3 hb3 b4
  obtain ⟨l0, l1, l2⟩ := HL4.three
  cases q3
  · have HI : Hid (isDrift cols keys t 1) := Or.inl ⟨fun h => (by have := HQ.out.2.2.1.2 h.2.2.1; cases this), rfl⟩
    go_wp2
    go_ret
    exact ⟨_, rfl, HI.out, hb4⟩
  go_wp2_with fail
  refine (H4.out _ hb4).mono ?_
  rintro e w5 ⟨rfl, b5⟩
  have HL5 := HL4.on b5
  have hb5 := ch_trans hb4 b5
  clear l0 l1 l2 H4 HL4 hb4 b5
  obtain ⟨l0, l1, l2⟩ := HL5.three
  cases q4
  · have HI : Hid (isDrift cols keys t 1) := Or.inl ⟨fun h => (by have := HQ.out.2.2.2.1.2 h.2.2.2; cases this), rfl⟩
    go_wp2
    go_ret
    exact ⟨_, rfl, HI.out, hb5⟩
  have HD1 : Hid (drift1 cols keys t) := ⟨HQ.out.1.1 (by trivial), HQ.out.2.1.1 (by trivial), HQ.out.2.2.1.1 (by trivial), HQ.out.2.2.2.1.1 (by trivial)⟩
  go_wp2
  go_loopw [32] (fun i wr => ∃ k : Nat, k ≤ cols.length ∧ i = .int .i64 k ∧ Below w5.heap.size w5 wr ∧ Hid (∀ j (h : j < cols.length), j < k → cols[j] ∈ colNames t)) (fun i _ => cols.length - (intOf i).toNat)
  case atStart => exact ⟨0, Nat.zero_le _, rfl, Below.refl _ _, fun j h hj => by omega⟩
  case round =>
    obtain ⟨k, hk, rfl, hb, HN⟩ := hrel
    have hbw := ch_trans hb5 hb
    have HLw := HL5.on hb
    clear l0 l1 l2
    obtain ⟨l0, l1, l2⟩ := HLw.three
    by_cases hlt : k < cols.length
    · have hlti : (k : Int) < cols.length := by omega
      obtain ⟨cb, off, rfl, c0⟩ := (HCR.out.on hbw).strs k hlt
      have HCN := colAt_names t cols[k]
      go_wp2_with fail
      refine (HCA.out _ _ hbw).mono ?_
      rintro e w6 ⟨rfl, b6⟩
      have hb6 := ch_trans hbw b6
      have hb56 := ch_trans hb b6
      clear b6
      rcases HCN with ⟨h1, h2⟩ | ⟨h1, h2⟩
      · have h2' : ¬ colAt t.cols cols[k] < 0 := by omega
        have HN' : Hid (∀ j (h : j < cols.length), j < k + 1 → cols[j] ∈ colNames t) := fun j h hj => by
          by_cases e : j = k
          · subst e; exact h1
          · exact HN.out j h (by omega)
        clear h1 h2
        go_wp2
        go_round
        case rel => exact ⟨k + 1, by omega, by go_num, hb56, HN'⟩
        case measure => simp [intOf]; omega
      · have HI : Hid (isDrift cols keys t 11) := Or.inr ⟨HD1.out, Or.inl ⟨fun h => h1 (h _ (List.getElem_mem hlt)), rfl⟩⟩
        have h2' : colAt t.cols cols[k] < 0 := by omega
        clear h1 h2
        go_wp2
        go_ret
        exact ⟨_, rfl, HI.out, hb6⟩
    · have hlti : (cols.length : Int) ≤ k := by omega
      have HD2 : Hid (drift2 cols t) := fun s hs => by
        obtain ⟨j, hj, rfl⟩ := List.getElem_of_mem hs
        exact HN.out j hj (by omega)
      go_wp2_with fail
      refine (H5.out _ hbw).mono ?_
      rintro e w7 ⟨rfl, b7⟩
      have HL7 := HLw.on b7
      have hb7 := ch_trans hbw b7
      clear l0 l1 l2 H5 b7 hbw
      obtain ⟨l0, l1, l2⟩ := HL7.three
      cases q5
      · have HI : Hid (isDrift cols keys t 12) := Or.inr ⟨HD1.out, Or.inr ⟨HD2.out, Or.inl ⟨fun h => (by have := HQ.out.2.2.2.2.1.2 h.1; cases this), rfl⟩⟩⟩
        go_wp2
        go_ret
        exact ⟨_, rfl, HI.out, hb7⟩
      go_wp2_with fail
      refine (H6.out _ hb7).mono ?_
      rintro e w8 ⟨rfl, b8⟩
      have HL8 := HL7.on b8
      have hb8 := ch_trans hb7 b8
      clear l0 l1 l2 H6 b8 hb7
      obtain ⟨l0, l1, l2⟩ := HL8.three
      cases q6
      · have HI : Hid (isDrift cols keys t 12) := Or.inr ⟨HD1.out, Or.inr ⟨HD2.out, Or.inl ⟨fun h => (by have := HQ.out.2.2.2.2.2.2 h.2; cases this), rfl⟩⟩⟩
        go_wp2
        go_ret
        exact ⟨_, rfl, HI.out, hb8⟩
      have HD3 : Hid (drift3 keys t) := ⟨HQ.out.2.2.2.2.1.1 (by trivial), HQ.out.2.2.2.2.2.1 (by trivial)⟩
      clear HQ hb hb5 HL5 HLw HL7
      go_wp2
      clear hk hlt hlti HN
      go_loopw [56] (fun i wr => ∃ k : Nat, k ≤ t.cols.length ∧ i = .int .i64 k ∧ Below w8.heap.size w8 wr ∧ Hid (∀ j (h : j < t.cols.length), j < k → ¬ lacks cols t.cols[j])) (fun i _ => t.cols.length - (intOf i).toNat)
      case atStart => exact ⟨0, Nat.zero_le _, rfl, Below.refl _ _, fun j h hj => by omega⟩
      case round =>
        obtain ⟨k, hk, rfl, hb, HN⟩ := hrel
        have hbw := ch_trans hb8 hb
        by_cases hlt : k < t.cols.length
        · have hlti : (k : Int) < t.cols.length := by omega
          obtain ⟨cb, off, rfl, c0, c1, c2, c3, c4, c5, c6⟩ := (HR.out.on hbw).cols k hlt
          obtain ⟨C, hC⟩ : ∃ C, C = t.cols[k] := ⟨_, rfl⟩
          have HNx : Hid (¬ lacks cols C → ∀ j (h : j < t.cols.length), j < k + 1 → ¬ lacks cols t.cols[j]) := fun h0 j h hj => by
            by_cases e : j = k
            · subst e; rw [← hC]; exact h0
            · exact HN.out j h (by omega)
          have HIx : Hid (lacks cols C → isDrift cols keys t 13) := fun h0 => Or.inr ⟨HD1.out, Or.inr ⟨HD2.out, Or.inr ⟨HD3.out, Or.inl ⟨fun h => h k hlt (by rw [← hC]; exact h0), rfl⟩⟩⟩⟩
          simp only [← hC] at c0 c1 c2 c3 c4 c5 c6
          clear hC HN
          have hb10 : Below w8.heap.size w8 (wr.alloc (.cells #[.string C.name, .int .i64 C.ty, .bool C.nt, .bool C.has, .int .i64 C.dt, .int .i64 C.dn, .string C.ds] 60)) := hb.trans ((ch_alloc (Below.refl _ _) _).mono hb.size)
          have hbw10 := ch_trans hb8 hb10
          obtain ⟨nm, ty, nt, has, dt, dn, ds⟩ := C
          simp only at c0 c1 c2 c3 c4 c5 c6 hb10 hbw10
          cases nt
          · have HN' := HNx.out fun h => by cases h.1
            have HN'' : Hid (∀ j (h : j < t.cols.length), j < k + 1 → ¬ lacks cols t.cols[j]) := HN'
            clear HNx HIx HN'
            go_wp2
            go_round
            case rel => exact ⟨k + 1, by omega, by go_num, hb10, HN''⟩
            case measure => simp [intOf]; omega
          cases has
          rotate_left
          · have HN' := HNx.out fun h => by cases h.2.1
            have HN'' : Hid (∀ j (h : j < t.cols.length), j < k + 1 → ¬ lacks cols t.cols[j]) := HN'
            clear HNx HIx HN'
            go_wp2
            go_round
            case rel => exact ⟨k + 1, by omega, by go_num, hb10, HN''⟩
            case measure => simp [intOf]; omega
          go_wp2_with fail
          refine (HHA.out _ _ hbw10).mono ?_
          rintro e w11 ⟨q, rfl, h1, b11⟩
          have hb11 := ch_trans hb10 b11
          clear b11
          cases q
          · have HI : Hid (isDrift cols keys t 13) := HIx.out ⟨rfl, rfl, fun h => (by have := h1.2 h; cases this)⟩
            clear h1 HNx HIx
            go_wp2
            go_ret
            exact ⟨_, rfl, HI.out, ch_trans hb8 hb11⟩
          · have HN'' : Hid (∀ j (h : j < t.cols.length), j < k + 1 → ¬ lacks cols t.cols[j]) := HNx.out fun h => h.2.2 (h1.1 rfl)
            clear h1 HNx HIx
            go_wp2
            go_round
            case rel => exact ⟨k + 1, by omega, by go_num, hb11, HN''⟩
            case measure => simp [intOf]; omega
        · have hlti : (t.cols.length : Int) ≤ k := by omega
          have HI : Hid (isDrift cols keys t 0) := Or.inr ⟨HD1.out, Or.inr ⟨HD2.out, Or.inr ⟨HD3.out, Or.inr ⟨fun j h => HN.out j h (by omega), rfl⟩⟩⟩⟩
          go_wp2
          go_ret
          exact ⟨_, rfl, HI.out, hbw⟩
end Go.Proofs.Ytiijahoheajppaa
