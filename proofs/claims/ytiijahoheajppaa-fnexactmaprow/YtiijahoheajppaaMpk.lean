/- A key by names: landed and given. -/
import Derived.Test.YtiijahoheajppaaMr
import Derived.Test.YtiijahoheajppaaKkI
import Derived.Test.YtiijahoheajppaaCn
namespace Go.Proofs.Ytiijahoheajppaa
open Go.ChangeShapes Go.WideShapes Go.ChangeAt Go.RowKit

def mk1 (keys : List ByteArray) (t : Tc) (vs : List Vc) : Prop := t.right ∧ keys.Nodup ∧ vs.length = keys.length
/-- What is told of a key by names. -/
def isMapKey (keys : List ByteArray) (t : Tc) (vs : List Vc) (out : List Vc) (r : Int) : Prop :=
  (¬ mk1 keys t vs ∧ r = 1 ∧ out = []) ∨ (mk1 keys t vs ∧ ((¬ drift3 keys t ∧ r = 12 ∧ out = []) ∨ (drift3 keys t ∧ ((¬ keyRight t (mapL keys t.keys vs []) ∧ r = 14 ∧ out = []) ∨ (keyRight t (mapL keys t.keys vs []) ∧ r = 0 ∧ out = mapL keys t.keys vs [])))))
theorem isMapKey.unique {keys : List ByteArray} {t : Tc} {vs out out' : List Vc} {a b : Int} (h : isMapKey keys t vs out a) (h' : isMapKey keys t vs out' b) : a = b ∧ out = out' := by
  unfold isMapKey at h h'
  rcases h with ⟨h1, rfl, rfl⟩ | ⟨h1, ⟨h2, rfl, rfl⟩ | ⟨h2, ⟨h3, rfl, rfl⟩ | ⟨h3, rfl, rfl⟩⟩⟩ <;> rcases h' with ⟨g1, rfl, rfl⟩ | ⟨g1, ⟨g2, rfl, rfl⟩ | ⟨g2, ⟨g3, rfl, rfl⟩ | ⟨g3, rfl, rfl⟩⟩⟩ <;> first | exact ⟨rfl, rfl⟩ | contradiction
theorem isMapKey.few {keys : List ByteArray} {t : Tc} {vs out : List Vc} {r : Int} (h : isMapKey keys t vs out r) : out.length ≤ 8 := by
  unfold isMapKey at h
  rcases h with ⟨_, _, rfl⟩ | ⟨h1, ⟨_, _, rfl⟩ | ⟨_, ⟨_, _, rfl⟩ | ⟨_, _, rfl⟩⟩⟩
  · simp
  · simp
  · simp
  · rw [mapL_len]
    have := right_keys h1.1
    have := h1.1.2.2.1
    omega
theorem ValsV.void (w : World) : ValsV w (.slice none 0 0) [] := ⟨Option.none, 0, rfl, Nat.le_refl _, by unfold maxLen; omega, RowAt.nil _ _ _⟩

set_option maxRecDepth 100000 in
set_option maxHeartbeats 2000000 in
/-- impl.MapKey -/
theorem mapKey_impl (x : Array Value) (kv vv : Value) (keys : List ByteArray) (t : Tc) (vs : List Vc) (w : World) (hx : TabV w x t) (hk : StrsV w kv keys) (hv : ValsV w vv vs) (hf : t.fit) (hkf : ∀ s ∈ keys, s.size ≤ maxLen) :
    Calls Try.prog 26 #[kv, .agg x, vv] w fun e w' => ∃ (v : Value) (out : List Vc) (r : Int), e = .returned (.tuple #[v, .int .i64 r]) ∧ isMapKey keys t vs out r ∧ Below w.heap.size w w' ∧ Got w' w.heap.size 58 3 v (out.map Vc.cells) := by
  obtain ⟨a, p, o, z, rfl, hx, hcs, hks⟩ := hx.lit
  obtain ⟨qt, hqt⟩ := boolOf t.right
  obtain ⟨q2, hq2⟩ := boolOf (¬ keys.Nodup)
  obtain ⟨q6, hq6⟩ := boolOf (keys.length = t.keys.length ∧ ∀ s ∈ keys, s ∈ t.keys)
  obtain ⟨q7, hq7⟩ := boolOf (keyRight t (mapL keys t.keys vs []))
  have HQ : Hid ((qt = true ↔ t.right) ∧ (q2 = true ↔ ¬ keys.Nodup) ∧ (q6 = true ↔ (keys.length = t.keys.length ∧ ∀ s ∈ keys, s ∈ t.keys)) ∧ (q7 = true ↔ keyRight t (mapL keys t.keys vs []))) := ⟨hqt, hq2, hq6, hq7⟩
  have HT : Hid (∀ u : World, Below w.heap.size w u → Calls Try.prog 36 #[.agg #[.string t.name, .slice a t.cols.length p, .slice o t.keys.length z]] u fun e w' => e = .returned (.bool qt) ∧ Below u.heap.size u w') := fun u hu => (tableOk_impl _ t u (hx.on hu) hf).mono fun e w' ⟨q, h1, h2, h3⟩ => ⟨by rw [h1, bool_same h2 hqt], h3⟩
  have H2 : Hid (∀ u : World, Below w.heap.size w u → Calls Try.prog 37 #[kv] u fun e w' => e = .returned (.bool q2) ∧ Below u.heap.size u w') := fun u hu => (comesTwice_any kv keys u (hk.on hu) hkf).mono fun e w' ⟨q, h1, h2, h3⟩ => ⟨by rw [h1, bool_same h2 hq2], h3⟩
  have H6 : Hid (∀ u : World, Below w.heap.size w u → Calls Try.prog 40 #[kv, .slice o t.keys.length z] u fun e w' => e = .returned (.bool q6) ∧ Below u.heap.size u w') := fun u hu => (justThese_any kv _ keys t.keys u (hk.on hu) (hks.on hu) hkf hf.2.2).mono fun e w' ⟨q, h1, h2, h3⟩ => ⟨by rw [h1, bool_same h2 hq6], h3⟩
  have HMO : Hid (∀ u : World, Below w.heap.size w u → Calls Try.prog 53 #[kv, .slice o t.keys.length z] u fun e w' => ∃ X Y b, e = .returned (.func (.func 68) #[] #[.pointer (some ⟨X, 0, none⟩), .pointer (some ⟨Y, 0, none⟩)]) ∧ Below u.heap.size u w' ∧ w'.cell? ⟨X, 0, none⟩ = some (.slice o t.keys.length z) ∧ w'.cell? ⟨Y, 0, none⟩ = some (.map (some b)) ∧ MapIs Try.prog 9 w' b keys.length (nplist keys keys.length)) := fun u hu => mappingOf_any kv _ keys u (hk.on hu) hkf t.keys (hks.on hu)
  have HMP : Hid (t.right → drift3 keys t → vs.length = keys.length → ∀ (u : World) (X Y b : Nat), Below w.heap.size w u → u.cell? ⟨X, 0, none⟩ = some (.slice o t.keys.length z) → u.cell? ⟨Y, 0, none⟩ = some (.map (some b)) → MapIs Try.prog 9 u b keys.length (nplist keys keys.length) → Calls Try.prog 68 #[vv, .slice none 0 0, .pointer (some ⟨X, 0, none⟩), .pointer (some ⟨Y, 0, none⟩)] u fun e w' => ∃ kv', e = .returned kv' ∧ Below u.heap.size u w' ∧ Got w' u.heap.size 58 3 kv' ((mapL keys t.keys vs []).map Vc.cells)) := fun h1 h2 h3 u X Y b hu hX hY hm => mapping_any X Y b _ keys t.keys _ vv _ vs [] u hX hY (hks.on hu) hm (hv.on hu) (ValsV.void u) (by omega) (fun i hi => Or.inl (h2.2 _ (List.getElem_mem hi))) (by have := right_keys h1; have := h1.2.2.1; omega) hf.2.2
  have HKO : Hid (∀ (u : World) (v : Value), Below w.heap.size w u → ValsV u v (mapL keys t.keys vs []) → Calls Try.prog 54 #[.agg #[.string t.name, .slice a t.cols.length p, .slice o t.keys.length z], v] u fun e w' => e = .returned (.bool q7) ∧ Below u.heap.size u w') := fun u v hu h => (keyOk_impl _ t v _ u (hx.on hu) h hf).mono fun e w' ⟨q, h1, h2, h3⟩ => ⟨by rw [h1, bool_same h2 hq7], h3⟩
  obtain ⟨ak, pk, rfl, _, hpk, _⟩ := hk
  obtain ⟨av, pv, rfl, _, hpv, _⟩ := hv
  have HL := Loc.new w #[.string t.name, .slice a t.cols.length p, .slice o t.keys.length z] 32
  have hb0 : Below w.heap.size w (w.alloc (.cells #[.string t.name, .slice a t.cols.length p, .slice o t.keys.length z] 32)) := (by repeat (first | with_reducible exact Below.refl _ _ | with_reducible assumption | with_reducible refine ch_alloc ?_ _ | with_reducible refine Below.drew ?_ | with_reducible refine below_draws _ ?_ | (with_reducible refine Below.setCell ?_ ?_ _; rotate_left; focus (first | with_reducible exact Nat.le_refl _ | (simp; done) | (simp; omega) | (simp at *; omega))) | with_reducible refine ch_trans ?_ (by with_reducible assumption)))
  clear hx hcs hks hf hkf hqt hq2 hq6 hq7
  obtain ⟨l0, l1, l2⟩ := HL.three
  go_enter Try.func26, Try.ntmps26
  go_wp2_with fail
  refine (HT.out _ hb0).mono ?_
  rintro e w2 ⟨rfl, b2⟩
  have HL2 := HL.on b2
  have hb2 := ch_trans hb0 b2
  clear l0 l1 l2 HT HL b2 hb0
  obtain ⟨l0, l1, l2⟩ := HL2.three
  cases qt
  · have HI : Hid (isMapKey keys t vs [] 1) := Or.inl ⟨fun h => (by have := HQ.out.1.2 h.1; cases this), rfl, rfl⟩
    go_wp2
    go_ret2
    exact ⟨_, _, _, rfl, HI.out, hb2, Got.nil _ _ _ _⟩
  go_wp2_with fail
  refine (H2.out _ hb2).mono ?_
  rintro e w3 ⟨rfl, b3⟩
  have HL3 := HL2.on b3
  have hb3 := ch_trans hb2 b3
  clear l0 l1 l2 H2 HL2 hb2 b3
  obtain ⟨l0, l1, l2⟩ := HL3.three
  cases q2
  rotate_left
  · have HI : Hid (isMapKey keys t vs [] 1) := Or.inl ⟨fun h => HQ.out.2.1.1 rfl h.2.1, rfl, rfl⟩
    go_wp2
    go_ret2
    exact ⟨_, _, _, rfl, HI.out, hb3, Got.nil _ _ _ _⟩
  by_cases hlen : vs.length = keys.length
  rotate_left
  · have HI : Hid (isMapKey keys t vs [] 1) := Or.inl ⟨fun h => hlen h.2.2, rfl, rfl⟩
    have hne : ¬ (vs.length : Int) = keys.length := by omega
    clear hlen
    go_wp2
    go_ret2
    exact ⟨_, _, _, rfl, HI.out, hb3, Got.nil _ _ _ _⟩
  have H1 : Hid (mk1 keys t vs) := ⟨HQ.out.1.1 (by trivial), Classical.byContradiction fun h => (by have := HQ.out.2.1.2 h; cases this), hlen⟩
  have heq : (vs.length : Int) = keys.length := by omega
  clear hlen
  go_wp2_with fail
  refine (H6.out _ hb3).mono ?_
  rintro e w4 ⟨rfl, b4⟩
  have HL4 := HL3.on b4
  have hb4 := ch_trans hb3 b4
  clear l0 l1 l2 H6 HL3 hb3 b4
  obtain ⟨l0, l1, l2⟩ := HL4.three
  have HS : Hid (drift3 keys t ↔ (keys.length = t.keys.length ∧ ∀ s ∈ keys, s ∈ t.keys)) := (same_names keys t.keys H1.out.2.1 (keys_nodup H1.out.1)).symm
  cases q6
  · have HI : Hid (isMapKey keys t vs [] 12) := Or.inr ⟨H1.out, Or.inl ⟨fun h => (by have := HQ.out.2.2.1.2 (HS.out.1 h); cases this), rfl, rfl⟩⟩
    go_wp2
    go_ret2
    exact ⟨_, _, _, rfl, HI.out, hb4, Got.nil _ _ _ _⟩
  have HD3 : Hid (drift3 keys t) := HS.out.2 (HQ.out.2.2.1.1 (by trivial))
  go_wp2_with fail
  refine (HMO.out _ hb4).mono ?_
  rintro e w5 ⟨X, Y, b, rfl, b5, hX, hY, hm⟩
  have HL5 := HL4.on b5
  have hb5 := ch_trans hb4 b5
  have HC5 : Hid (Calls Try.prog 68 #[.slice av vs.length pv, .slice none 0 0, .pointer (some ⟨X, 0, none⟩), .pointer (some ⟨Y, 0, none⟩)] w5 fun e w' => ∃ kv', e = .returned kv' ∧ Below w5.heap.size w5 w' ∧ Got w' w5.heap.size 58 3 kv' ((mapL keys t.keys vs []).map Vc.cells)) := HMP.out H1.out.1 HD3.out H1.out.2.2 w5 X Y b hb5 hX hY hm
  clear l0 l1 l2 HMO HMP HL4 hb4 b5 hX hY hm
  go_wp2_with fail
  refine HC5.out.mono ?_
  rintro e w6 ⟨v6, rfl, b6, hg6⟩
  obtain ⟨a6, n6, c6, rfl, hg6⟩ := hg6.lit2
  have HL6 := HL5.on b6
  have hb6 := ch_trans hb5 b6
  have HV6 := hg6.vals
  have HG6 : Hid (Got w6 w.heap.size 58 3 (.slice a6 n6 c6) ((mapL keys t.keys vs []).map Vc.cells)) := hg6.mono hb5.size
  clear HC5 HL5 hb5 b6 hg6
  obtain ⟨l0, l1, l2⟩ := HL6.three
  go_wp2_with fail
  refine (HKO.out _ _ hb6 HV6).mono ?_
  rintro e w7 ⟨rfl, b7⟩
  have hb7 := ch_trans hb6 b7
  have HG7 : Hid (Got w7 w.heap.size 58 3 (.slice a6 n6 c6) ((mapL keys t.keys vs []).map Vc.cells)) := HG6.out.on b7
  clear l0 l1 l2 HKO HL6 hb6 b7 HV6 HG6
  cases q7
  · have HI : Hid (isMapKey keys t vs [] 14) := Or.inr ⟨H1.out, Or.inr ⟨HD3.out, Or.inl ⟨fun h => (by have := HQ.out.2.2.2.2 h; cases this), rfl, rfl⟩⟩⟩
    go_wp2
    go_ret2
    exact ⟨_, _, _, rfl, HI.out, hb7, Got.nil _ _ _ _⟩
  · have HI : Hid (isMapKey keys t vs (mapL keys t.keys vs []) 0) := Or.inr ⟨H1.out, Or.inr ⟨HD3.out, Or.inr ⟨HQ.out.2.2.2.1 (by trivial), rfl, rfl⟩⟩⟩
    go_wp2
    go_ret2
    exact ⟨_, _, _, rfl, HI.out, hb7, HG7.out⟩

set_option maxRecDepth 100000 in
set_option maxHeartbeats 2000000 in
/-- spec.MapKey -/
theorem mapKey_spec (x : Array Value) (kv vv : Value) (keys : List ByteArray) (t : Tc) (vs : List Vc) (w : World) (hx : TabV w x t) (hk : StrsV w kv keys) (hv : ValsV w vv vs) (hf : t.fit) :
    Calls Try.prog 25 #[kv, .agg x, vv] w fun e w' => ∃ (v : Value) (out : List Vc) (r : Int), e = .returned (.tuple #[v, .int .i64 r]) ∧ isMapKey keys t vs out r ∧ Below w.heap.size w w' ∧ Got w' w.heap.size 58 3 v (out.map Vc.cells) := by
  obtain ⟨a, p, o, z, rfl, hx, hcs, hks⟩ := hx.lit
  obtain ⟨qt, hqt⟩ := boolOf t.right
  obtain ⟨q2, hq2⟩ := boolOf keys.Nodup
  obtain ⟨q5, hq5⟩ := boolOf (∀ s ∈ keys, s ∈ t.keys)
  obtain ⟨q6, hq6⟩ := boolOf (∀ s ∈ t.keys, s ∈ keys)
  obtain ⟨q7, hq7⟩ := boolOf (keyRight t (mapL keys t.keys vs []))
  have HQ : Hid ((qt = true ↔ t.right) ∧ (q2 = true ↔ keys.Nodup) ∧ (q5 = true ↔ ∀ s ∈ keys, s ∈ t.keys) ∧ (q6 = true ↔ ∀ s ∈ t.keys, s ∈ keys) ∧ (q7 = true ↔ keyRight t (mapL keys t.keys vs []))) := ⟨hqt, hq2, hq5, hq6, hq7⟩
  have HT : Hid (∀ u : World, Below w.heap.size w u → Calls Try.prog 29 #[.agg #[.string t.name, .slice a t.cols.length p, .slice o t.keys.length z]] u fun e w' => e = .returned (.bool qt) ∧ Below u.heap.size u w') := fun u hu => (tableOk_spec _ t u (hx.on hu) hf).mono fun e w' ⟨q, h1, h2, h3⟩ => ⟨by rw [h1, bool_same h2 hqt], h3⟩
  have H2 : Hid (∀ u : World, Below w.heap.size w u → Calls Try.prog 30 #[kv] u fun e w' => e = .returned (.bool q2) ∧ Below u.heap.size u w') := fun u hu => (l10Once_any kv keys u (hk.on hu)).mono fun e w' ⟨q, h1, h2, h3⟩ => ⟨by rw [h1, bool_same h2 hq2], h3⟩
  have H5 : Hid (∀ u : World, Below w.heap.size w u → Calls Try.prog 31 #[kv, .slice o t.keys.length z] u fun e w' => e = .returned (.bool q5) ∧ Below u.heap.size u w') := fun u hu => (l10All_any kv _ keys t.keys u (hk.on hu) (hks.on hu)).mono fun e w' ⟨q, h1, h2, h3⟩ => ⟨by rw [h1, bool_same h2 hq5], h3⟩
  have H6 : Hid (∀ u : World, Below w.heap.size w u → Calls Try.prog 31 #[.slice o t.keys.length z, kv] u fun e w' => e = .returned (.bool q6) ∧ Below u.heap.size u w') := fun u hu => (l10All_any _ kv t.keys keys u (hks.on hu) (hk.on hu)).mono fun e w' ⟨q, h1, h2, h3⟩ => ⟨by rw [h1, bool_same h2 hq6], h3⟩
  have HAT : Hid (∀ (u : World) (s : ByteArray), Below w.heap.size w u → Calls Try.prog 51 #[kv, .string s] u fun e w' => e = .returned (.int .i64 (idxS keys s)) ∧ Below u.heap.size u w') := fun u s hu => l10At_any kv keys s u (hk.on hu)
  have HKO : Hid (∀ (u : World) (v : Value), Below w.heap.size w u → ValsV u v (mapL keys t.keys vs []) → Calls Try.prog 52 #[.agg #[.string t.name, .slice a t.cols.length p, .slice o t.keys.length z], v] u fun e w' => e = .returned (.bool q7) ∧ Below u.heap.size u w') := fun u v hu h => (keyOk_spec _ t v _ u (hx.on hu) h hf).mono fun e w' ⟨q, h1, h2, h3⟩ => ⟨by rw [h1, bool_same h2 hq7], h3⟩
  have HKR : Hid (RowAt w o 1 (t.keys.map strX)) := by obtain ⟨_, _, e, _, _, h⟩ := hks; cases e; exact h
  have hz : t.keys.length ≤ z ∧ z ≤ 2 ^ 63 - 1 := by obtain ⟨_, _, e, h1, h2, h⟩ := hks; cases e; exact ⟨h1, h2⟩
  obtain ⟨ak, pk, rfl, _, hpk, _⟩ := hk
  obtain ⟨av, pv, rfl, hlv, hpv, hvr⟩ := hv
  unfold maxLen at hpv
  have HV : Hid (RowAt w av 3 (vs.map Vc.cells)) := hvr
  have HL := Loc.new w #[.string t.name, .slice a t.cols.length p, .slice o t.keys.length z] 32
  have hb0 : Below w.heap.size w (w.alloc (.cells #[.string t.name, .slice a t.cols.length p, .slice o t.keys.length z] 32)) := (by repeat (first | with_reducible exact Below.refl _ _ | with_reducible assumption | with_reducible refine ch_alloc ?_ _ | with_reducible refine Below.drew ?_ | with_reducible refine below_draws _ ?_ | (with_reducible refine Below.setCell ?_ ?_ _; rotate_left; focus (first | with_reducible exact Nat.le_refl _ | (simp; done) | (simp; omega) | (simp at *; omega))) | with_reducible refine ch_trans ?_ (by with_reducible assumption)))
  clear hx hcs hks hf hqt hq2 hq5 hq6 hq7 hvr
  obtain ⟨l0, l1, l2⟩ := HL.three
  go_enter Try.func25, Try.ntmps25
  go_wp2_with fail
  refine (HT.out _ hb0).mono ?_
  rintro e w2 ⟨rfl, b2⟩
  have HL2 := HL.on b2
  have hb2 := ch_trans hb0 b2
  have hz2 : w.heap.size < w2.heap.size := Nat.lt_of_lt_of_le (by simp) b2.size
  clear l0 l1 l2 HT HL b2 hb0
  obtain ⟨l0, l1, l2⟩ := HL2.three
  cases qt
  · have HI : Hid (isMapKey keys t vs [] 1) := Or.inl ⟨fun h => (by have := HQ.out.1.2 h.1; cases this), rfl, rfl⟩
    go_wp2
    go_ret2
    exact ⟨_, _, _, rfl, HI.out, hb2, Got.nil _ _ _ _⟩
  go_wp2_with fail
  refine (H2.out _ hb2).mono ?_
  rintro e w3 ⟨rfl, b3⟩
  have HL3 := HL2.on b3
  have hb3 := ch_trans hb2 b3
  have hz3 := Nat.lt_of_lt_of_le hz2 b3.size
  clear l0 l1 l2 H2 HL2 hb2 b3
  obtain ⟨l0, l1, l2⟩ := HL3.three
  cases q2
  · have HI : Hid (isMapKey keys t vs [] 1) := Or.inl ⟨fun h => (by have := HQ.out.2.1.2 h.2.1; cases this), rfl, rfl⟩
    go_wp2
    go_ret2
    exact ⟨_, _, _, rfl, HI.out, hb3, Got.nil _ _ _ _⟩
  by_cases hlen : keys.length = vs.length
  rotate_left
  · have HI : Hid (isMapKey keys t vs [] 1) := Or.inl ⟨fun h => hlen h.2.2.symm, rfl, rfl⟩
    have hne : ¬ (keys.length : Int) = vs.length := by omega
    clear hlen
    go_wp2
    go_ret2
    exact ⟨_, _, _, rfl, HI.out, hb3, Got.nil _ _ _ _⟩
  have H1 : Hid (mk1 keys t vs) := ⟨HQ.out.1.1 (by trivial), HQ.out.2.1.1 (by trivial), hlen.symm⟩
  have HLN : Hid (keys.length = vs.length) := hlen
  have heq : (keys.length : Int) = vs.length := by omega
  clear hlen
  go_wp2_with fail
  refine (H5.out _ hb3).mono ?_
  rintro e w4 ⟨rfl, b4⟩
  have HL4 := HL3.on b4
  have hb4 := ch_trans hb3 b4
  have hz4 := Nat.lt_of_lt_of_le hz3 b4.size
  clear l0 l1 l2 H5 HL3 hb3 b4
  obtain ⟨l0, l1, l2⟩ := HL4.three
  cases q5
  · have HI : Hid (isMapKey keys t vs [] 12) := Or.inr ⟨H1.out, Or.inl ⟨fun h => (by have := HQ.out.2.2.1.2 h.1; cases this), rfl, rfl⟩⟩
    go_wp2
    go_ret2
    exact ⟨_, _, _, rfl, HI.out, hb4, Got.nil _ _ _ _⟩
  go_wp2_with fail
  refine (H6.out _ hb4).mono ?_
  rintro e w5 ⟨rfl, b5⟩
  have HL5 := HL4.on b5
  have hb5 := ch_trans hb4 b5
  have hz5 := Nat.lt_of_lt_of_le hz4 b5.size
  clear l0 l1 l2 H6 HL4 hb4 b5
  obtain ⟨l0, l1, l2⟩ := HL5.three
  cases q6
  · have HI : Hid (isMapKey keys t vs [] 12) := Or.inr ⟨H1.out, Or.inl ⟨fun h => (by have := HQ.out.2.2.2.1.2 h.2; cases this), rfl, rfl⟩⟩
    go_wp2
    go_ret2
    exact ⟨_, _, _, rfl, HI.out, hb5, Got.nil _ _ _ _⟩
  have HD3 : Hid (drift3 keys t) := ⟨HQ.out.2.2.1.1 (by trivial), HQ.out.2.2.2.1.1 (by trivial)⟩
  have hkl : t.keys.length ≤ 8 := by have := right_keys H1.out.1; have := H1.out.1.2.2.1; omega
  have hb6 : Below w5.heap.size w5 (w5.alloc (.cells #[] 58)) := ch_alloc (Below.refl _ _) _
  have HG0 : Hid (Got (w5.alloc (.cells #[] 58)) w5.heap.size 58 3 (.slice (some ⟨w5.heap.size, 0, none⟩) 0 0) (((mapL keys t.keys vs []).take 0).map Vc.cells)) := Got.emptyAt _ _ _ rfl
  have HL6 := HL5.on hb6
  have hb06 := ch_trans hb5 hb6
  have hz6 : w.heap.size ≤ w5.heap.size := hb5.size
  clear hz2 hz3 hz4
  clear heq
  go_wp2
  clear l0 l1 l2
  generalize w5.alloc (.cells #[] 58) = w6 at hb6 HG0 HL6 hb06 ⊢
  go_loopw [8, 42] (fun v i wr => ∃ k : Nat, k ≤ t.keys.length ∧ i = .int .i64 k ∧ Hid (Below w5.heap.size w5 wr) ∧ Hid (Got wr w5.heap.size 58 3 v (((mapL keys t.keys vs []).take k).map Vc.cells))) (fun _ i _ => t.keys.length - (intOf i).toNat)
  case atStart => exact ⟨0, Nat.zero_le _, rfl, hb6, HG0⟩
  case round =>
    clear HG0 HL6 hb06 hb6
    obtain ⟨k, hk, rfl, HB, HG⟩ := hrel
    obtain ⟨ag, ng, cg, rfl, hg⟩ := HG.out.lit2
    have HG' : Hid (Got wr w5.heap.size 58 3 (.slice ag ng cg) (((mapL keys t.keys vs []).take k).map Vc.cells)) := hg
    have hbw : Below w.heap.size w wr := ch_trans hb5 HB.out
    clear HG hg
    by_cases hlt : k < t.keys.length
    · have hlti : (k : Int) < t.keys.length := by omega
      obtain ⟨b1, off1, rfl, d0⟩ := (HKR.out.on hbw).strs k hlt
      obtain ⟨i, hi, g1, g0⟩ : ∃ i, ∃ hi : i < keys.length, keys[i] = t.keys[k] ∧ idxS keys t.keys[k] = (i : Int) := by
        rcases idxS_iff keys t.keys[k] with ⟨_, h⟩ | ⟨i, hi, h1, h2, _⟩
        · exact absurd (HD3.out.2 _ (List.getElem_mem hlt)) h
        · exact ⟨i, hi, h2, h1⟩
      have hiv : i < vs.length := by have := HLN.out; omega
      have hii : (i : Int) < vs.length := by omega
      have HPL : Hid _ := mapL_take (src := keys) (vs := vs) (rest := []) (k := k) hlt (c := vs[i]) (by unfold mapC; rw [g0, if_neg (by omega), Int.toNat_natCast]; simp [hiv])
      have HA := HAT.out wr t.keys[k] hbw
      rw [g0] at HA
      have HA' : Hid (Calls Try.prog 51 #[.slice ak keys.length pk, .string t.keys[k]] wr fun e w' => e = .returned (.int .i64 (i : Int)) ∧ Below wr.heap.size wr w') := HA
      clear g0 g1 HA
      go_wp2_with fail
      refine HA'.out.mono ?_
      rintro e w7 ⟨rfl, b7⟩
      have HB7 : Hid (Below w5.heap.size w5 w7) := ch_trans HB.out b7
      have HG7 : Hid (Got w7 w5.heap.size 58 3 (.slice ag ng cg) (((mapL keys t.keys vs []).take k).map Vc.cells)) := HG'.out.on b7
      obtain ⟨b2, off2, rfl, e0, e1, e2⟩ := (HV.out.on (ch_trans hbw b7)).vals i hiv
      have hB : w5.heap.size ≤ (w7.alloc (.cells #[.int .i64 vs[i].ty, .int .i64 vs[i].n, .string vs[i].s] 58)).heap.size := by have := HB7.out.size; simp; omega
      clear HA' b7 HG' hbw
      go_wp2_with (at_builtin; refine app_one rfl (.tmp 46) (.tmp 53) rfl Try.underlying39 infoVal rfl (by decide) (by decide) w5.heap.size _ (((mapL keys t.keys vs []).take k).map Vc.cells) rfl (HG7.out.on (ch_alloc (Below.refl _ _) _)) w7.heap.size 1 vs[i].cells rfl (Loc.new _ _ _) rfl (val_one _) (by simp; omega) hB ?_; intro v' w8 hg8 hb8)
      have HG8 : Hid (Got w8 w5.heap.size 58 3 v' (((mapL keys t.keys vs []).take (k + 1)).map Vc.cells)) := by
        show Got _ _ _ _ _ _
        rw [HPL.out]; exact hg8
      have hb9 : Hid (Below w5.heap.size w5 w8) := Below.trans (ch_alloc HB7.out _) hb8
      clear hg8 hb8 HB7 HG7
      go_round
      case rel => exact ⟨k + 1, by omega, by go_num, hb9, HG8⟩
      case measure => simp [intOf]; omega
    · have hlti : (t.keys.length : Int) ≤ k := by omega
      have hg := HG'.out
      rw [List.take_of_length_le (by rw [mapL_len]; omega)] at hg
      have HI : Hid (Got wr w.heap.size 58 3 (.slice ag ng cg) ((mapL keys t.keys vs []).map Vc.cells)) := hg.mono hz6
      have HVV := hg.vals
      have HLw := HL5.on HB.out
      clear hg HG'
      obtain ⟨l0, l1, l2⟩ := HLw.three
      go_wp2_with fail
      refine (HKO.out _ _ hbw HVV).mono ?_
      rintro e w7 ⟨rfl, b7⟩
      have hb7 := ch_trans hbw b7
      have HG7 : Hid (Got w7 w.heap.size 58 3 (.slice ag ng cg) ((mapL keys t.keys vs []).map Vc.cells)) := HI.out.on b7
      clear l0 l1 l2 HLw HVV HI b7 hbw
      cases q7
      · have HI : Hid (isMapKey keys t vs [] 14) := Or.inr ⟨H1.out, Or.inr ⟨HD3.out, Or.inl ⟨fun h => (by have := HQ.out.2.2.2.2.2 h; cases this), rfl, rfl⟩⟩⟩
        go_wp2
        go_ret2
        exact ⟨_, _, _, rfl, HI.out, hb7, Got.nil _ _ _ _⟩
      · have HI : Hid (isMapKey keys t vs (mapL keys t.keys vs []) 0) := Or.inr ⟨H1.out, Or.inr ⟨HD3.out, Or.inr ⟨HQ.out.2.2.2.2.1 (by trivial), rfl, rfl⟩⟩⟩
        go_wp2
        go_ret2
        exact ⟨_, _, _, rfl, HI.out, hb7, HG7.out⟩
end Go.Proofs.Ytiijahoheajppaa
