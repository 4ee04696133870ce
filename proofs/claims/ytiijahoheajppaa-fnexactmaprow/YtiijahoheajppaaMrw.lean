/- A row by names: landed and given. -/
import Derived.Test.YtiijahoheajppaaMpk
import Derived.Test.YtiijahoheajppaaRowOkI
import Derived.Test.YtiijahoheajppaaOh
import Derived.Test.YtiijahoheajppaaFl
import Derived.Test.YtiijahoheajppaaOh
namespace Go.Proofs.Ytiijahoheajppaa
open Go.ChangeShapes Go.WideShapes Go.ChangeAt Go.RowKit

/-- The defaults of a table's columns. -/
def defs (t : Tc) : List Vc := t.cols.map fun c => ⟨c.dt, c.dn, c.ds⟩
def mr1 (cols : List ByteArray) (t : Tc) (vs : List Vc) : Prop := t.right ∧ cols.Nodup ∧ vs.length = cols.length
/-- What is told of a row by names; 'rest' stands where none comes. -/
def isMapRow (cols : List ByteArray) (t : Tc) (vs rest : List Vc) (out : List Vc) (r : Int) : Prop :=
  (¬ mr1 cols t vs ∧ r = 1 ∧ out = []) ∨ (mr1 cols t vs ∧ ((¬ drift2 cols t ∧ r = 11 ∧ out = []) ∨ (drift2 cols t ∧ ((¬ rowFits t.cols (mapL cols (colNames t) vs rest) ∧ r = 14 ∧ out = []) ∨ (rowFits t.cols (mapL cols (colNames t) vs rest) ∧ r = 0 ∧ out = mapL cols (colNames t) vs rest)))))
theorem isMapRow.unique {cols : List ByteArray} {t : Tc} {vs rest out out' : List Vc} {a b : Int} (h : isMapRow cols t vs rest out a) (h' : isMapRow cols t vs rest out' b) : a = b ∧ out = out' := by
  unfold isMapRow at h h'
  rcases h with ⟨h1, rfl, rfl⟩ | ⟨h1, ⟨h2, rfl, rfl⟩ | ⟨h2, ⟨h3, rfl, rfl⟩ | ⟨h3, rfl, rfl⟩⟩⟩ <;> rcases h' with ⟨g1, rfl, rfl⟩ | ⟨g1, ⟨g2, rfl, rfl⟩ | ⟨g2, ⟨g3, rfl, rfl⟩ | ⟨g3, rfl, rfl⟩⟩⟩ <;> first | exact ⟨rfl, rfl⟩ | contradiction
theorem isMapRow.few {cols : List ByteArray} {t : Tc} {vs rest out : List Vc} {r : Int} (h : isMapRow cols t vs rest out r) : out.length ≤ 8 := by
  unfold isMapRow at h
  rcases h with ⟨_, _, rfl⟩ | ⟨h1, ⟨_, _, rfl⟩ | ⟨_, ⟨_, _, rfl⟩ | ⟨_, _, rfl⟩⟩⟩
  · simp
  · simp
  · simp
  · rw [mapL_len]
    have := h1.1.2.2.1
    simp [colNames]; omega
theorem names_fit {t : Tc} (h : t.fit) : ∀ s ∈ colNames t, s.size ≤ maxLen := fun s hs => by
  obtain ⟨c, hc, rfl⟩ := List.mem_map.1 hs
  exact (h.2.1 c hc).1
theorem right_few0 {t : Tc} (h : t.right) : t.few := by
  have hk := right_keys h
  have h2 := h.2.2.1
  exact ⟨by omega, by omega⟩
theorem defs_len (t : Tc) : (defs t).length = t.cols.length := List.length_map _

set_option maxRecDepth 100000 in
set_option maxHeartbeats 2000000 in
/-- impl.defaultsOf -/
theorem defaultsOf_any (x : Array Value) (t : Tc) (w : World) (hx : TabV w x t) (hn : t.cols.length ≤ 1048576) :
    Calls Try.prog 47 #[.agg x] w fun e w' => ∃ v, e = .returned v ∧ Below w.heap.size w w' ∧ Got w' w.heap.size 58 3 v ((defs t).map Vc.cells) := by
  obtain ⟨cv, kv, rfl, hcv, hkv⟩ := hx
  obtain ⟨a, p, rfl, hp, hp', hr⟩ := hcv
  unfold maxLen at hp'
  have HCV : Hid (RowAt w a 7 (t.cols.map Cl.cells)) := hr
  have HL := Loc.new w #[.string t.name, .slice a t.cols.length p, kv] 32
  have hb0 : Below w.heap.size w (w.alloc (.cells #[.string t.name, .slice a t.cols.length p, kv] 32)) := (by repeat (first | with_reducible exact Below.refl _ _ | with_reducible assumption | with_reducible refine ch_alloc ?_ _ | with_reducible refine Below.drew ?_ | with_reducible refine below_draws _ ?_ | (with_reducible refine Below.setCell ?_ ?_ _; rotate_left; focus (first | with_reducible exact Nat.le_refl _ | (simp; done) | (simp; omega) | (simp at *; omega))) | with_reducible refine ch_trans ?_ (by with_reducible assumption)))
  clear hr hkv
  obtain ⟨l0, l1, l2⟩ := HL.three
  have HG0 : Hid (Got (w.alloc (.cells #[.string t.name, .slice a t.cols.length p, kv] 32)) w.heap.size 58 3 (.slice none 0 0) (((defs t).take 0).map Vc.cells)) := by
    show Got _ _ _ _ _ _
    simpa using Got.nil _ _ _ _
  clear HL
  go_enter Try.func47, Try.ntmps47
  go_wp2
  go_loopw [3, 9] (fun v j wr => ∃ k : Nat, k ≤ t.cols.length ∧ j = .int .i64 (k : Int) ∧ Hid (Below w.heap.size w wr) ∧ Hid (Got wr w.heap.size 58 3 v (((defs t).take k).map Vc.cells))) (fun _ j _ => t.cols.length - (intOf j).toNat)
  case atStart => exact ⟨0, Nat.zero_le _, rfl, hb0, HG0⟩
  case round =>
    obtain ⟨k, hk, rfl, HB, HG⟩ := hrel
    obtain ⟨a', n', cap', rfl, hg⟩ := HG.out.lit2
    have HG1 : Hid (Got wr w.heap.size 58 3 (.slice a' n' cap') (((defs t).take k).map Vc.cells)) := hg
    clear HG hg HG0
    by_cases hkt : k < t.cols.length
    · have hlti2 : (k : Int) < t.cols.length := by omega
      obtain ⟨b', off', rfl, e0, e1, e2, e3, e4, e5, e6⟩ := (HCV.out.on HB.out).cols k hkt
      have HE : Hid (((defs t).take k).map Vc.cells ++ [#[.int .i64 t.cols[k].dt, .int .i64 t.cols[k].dn, .string t.cols[k].ds]] = ((defs t).take (k + 1)).map Vc.cells) := by
        show _ = _
        rw [List.take_succ_eq_append_getElem (by rw [defs_len]; exact hkt), List.map_append]
        simp [defs]
      have hlk : (((defs t).take k).map Vc.cells).length ≤ 1048576 := by simp [defs]; omega
      have hsz : w.heap.size ≤ wr.heap.size := HB.out.size
      generalize ((defs t).take k).map Vc.cells = T0 at HG1 HE hlk
      go_wp2_with (at_builtin; refine app_one rfl (.tmp 13) (.tmp 16) rfl Try.underlying39 infoVal rfl (by decide) (by decide) w.heap.size _ T0 rfl (HG1.out.on (by repeat (first | with_reducible exact Below.refl _ _ | with_reducible assumption | with_reducible refine ch_alloc ?_ _ | with_reducible refine Below.drew ?_ | with_reducible refine below_draws _ ?_ | (with_reducible refine Below.setCell ?_ ?_ _; rotate_left; focus (first | with_reducible exact Nat.le_refl _ | (simp; done) | (simp; omega) | (simp at *; omega))) | with_reducible refine ch_trans ?_ (by with_reducible assumption)))) (wr.heap.size + 1) 1 #[.int .i64 t.cols[k].dt, .int .i64 t.cols[k].dn, .string t.cols[k].ds] rfl (Own.at (wr.alloc _) _ _ (by simp)).loc rfl (val_one ⟨t.cols[k].dt, t.cols[k].dn, t.cols[k].ds⟩) (by omega) (by simp; omega) ?_; intro v3 w4 hg4 hb4)
      have HG4 : Hid (Got w4 w.heap.size 58 3 v3 (((defs t).take (k + 1)).map Vc.cells)) := by
        show Got _ _ _ _ _ _
        rw [← HE.out]; exact hg4
      have HB4 : Hid (Below w.heap.size w w4) := HB.out.trans ((Below.mono (ch_alloc (ch_alloc (Below.refl _ _) _) _) hsz).trans hb4)
      clear hg4 hb4
      go_round
      case rel => exact ⟨k + 1, by omega, by go_num, HB4, HG4⟩
      case measure => simp [intOf]; omega
    · have hlti2 : (t.cols.length : Int) ≤ k := by omega
      have HG9 : Hid (Got wr w.heap.size 58 3 (.slice a' n' cap') ((defs t).map Vc.cells)) := by
        show Got _ _ _ _ _ _
        have := HG1.out
        rwa [List.take_of_length_le (by rw [defs_len]; omega)] at this
      go_wp2
      go_ret
      exact ⟨_, rfl, HB.out, HG9.out⟩

set_option maxRecDepth 100000 in
set_option maxHeartbeats 4000000 in
/-- impl.mapRow -/
theorem mapRow_any (x : Array Value) (cv vv rv : Value) (cols : List ByteArray) (t : Tc) (vs rest : List Vc) (w : World) (hx : TabV w x t) (hc : StrsV w cv cols) (hv : ValsV w vv vs) (hr : ValsV w rv rest) (hf : t.fit) (hcf : ∀ s ∈ cols, s.size ≤ maxLen) (ht : t.right) (hrl : rest.length = t.cols.length) :
    Calls Try.prog 46 #[cv, .agg x, vv, rv] w fun e w' => ∃ (v : Value) (out : List Vc) (r : Int), e = .returned (.tuple #[.agg #[v], .int .i64 r]) ∧ isMapRow cols t vs rest out r ∧ Below w.heap.size w w' ∧ Got w' w.heap.size 58 3 v (out.map Vc.cells) := by
  obtain ⟨a, p, o, z, rfl, hx, hcs, hks⟩ := hx.lit
  have htf := right_few0 ht
  obtain ⟨q2, hq2⟩ := boolOf (¬ cols.Nodup)
  obtain ⟨q5, hq5⟩ := boolOf (∀ s ∈ cols, s ∈ colNames t)
  obtain ⟨q7, hq7⟩ := boolOf (rowFits t.cols (mapL cols (colNames t) vs rest))
  have HQ : Hid ((q2 = true ↔ ¬ cols.Nodup) ∧ (q5 = true ↔ ∀ s ∈ cols, s ∈ colNames t) ∧ (q7 = true ↔ rowFits t.cols (mapL cols (colNames t) vs rest)) ∧ t.right) := ⟨hq2, hq5, hq7, ht⟩
  have HN : Hid (∀ u : World, Below w.heap.size w u → Calls Try.prog 39 #[.agg #[.string t.name, .slice a t.cols.length p, .slice o t.keys.length z]] u fun e w' => ∃ v, e = .returned v ∧ Below u.heap.size u w' ∧ Got w' u.heap.size 9 1 v ((colNames t).map strX)) := fun u hu => colNames_any _ t u (hx.on hu) htf.1
  have H2 : Hid (∀ u : World, Below w.heap.size w u → Calls Try.prog 37 #[cv] u fun e w' => e = .returned (.bool q2) ∧ Below u.heap.size u w') := fun u hu => (comesTwice_any cv cols u (hc.on hu) hcf).mono fun e w' ⟨q, h1, h2, h3⟩ => ⟨by rw [h1, bool_same h2 hq2], h3⟩
  have HP : Hid (∀ (u : World) (v : Value), StrsV u v (colNames t) → Calls Try.prog 35 #[v] u fun e w' => ∃ b, e = .returned (.map (some b)) ∧ u.heap.size ≤ b ∧ Below u.heap.size u w' ∧ MapIs Try.prog 9 w' b (colNames t).length (nplist (colNames t) (colNames t).length)) := fun u v hu => placesOf_any v (colNames t) u hu (names_fit hf)
  have H5 : Hid (∀ (u : World) (b n : Nat), Below w.heap.size w u → MapIs Try.prog 9 u b n (nplist (colNames t) (colNames t).length) → Calls Try.prog 38 #[.map (some b), cv] u fun e w' => e = .returned (.bool q5) ∧ Below u.heap.size u w') := fun u b n hu hm => (haveAll_any b _ cv (colNames t) cols u hm (hc.on hu) hcf).mono fun e w' ⟨q, h1, h2, h3⟩ => ⟨by rw [h1, bool_same h2 hq5], h3⟩
  have HMO : Hid (∀ (u : World) (v : Value), Below w.heap.size w u → StrsV u v (colNames t) → Calls Try.prog 53 #[cv, v] u fun e w' => ∃ X Y b, e = .returned (.func (.func 68) #[] #[.pointer (some ⟨X, 0, none⟩), .pointer (some ⟨Y, 0, none⟩)]) ∧ Below u.heap.size u w' ∧ w'.cell? ⟨X, 0, none⟩ = some v ∧ w'.cell? ⟨Y, 0, none⟩ = some (.map (some b)) ∧ MapIs Try.prog 9 w' b cols.length (nplist cols cols.length)) := fun u v hu hv => mappingOf_any cv v cols u (hc.on hu) hcf (colNames t) hv
  have HMP : Hid (vs.length = cols.length → ∀ (u : World) (v : Value) (X Y b : Nat), Below w.heap.size w u → StrsV u v (colNames t) → u.cell? ⟨X, 0, none⟩ = some v → u.cell? ⟨Y, 0, none⟩ = some (.map (some b)) → MapIs Try.prog 9 u b cols.length (nplist cols cols.length) → Calls Try.prog 68 #[vv, rv, .pointer (some ⟨X, 0, none⟩), .pointer (some ⟨Y, 0, none⟩)] u fun e w' => ∃ kv', e = .returned kv' ∧ Below u.heap.size u w' ∧ Got w' u.heap.size 58 3 kv' ((mapL cols (colNames t) vs rest).map Vc.cells)) := fun h3 u v X Y b hu hs hX hY hm => mapping_any X Y b _ cols (colNames t) v vv rv vs rest u hX hY hs hm (hv.on hu) (hr.on hu) (by omega) (fun i hi => Or.inr (by simp [colNames] at hi; omega)) (by simp [colNames]; exact htf.1) (names_fit hf)
  have HRO : Hid (∀ (u : World) (v : Value), Below w.heap.size w u → ValsV u v (mapL cols (colNames t) vs rest) → Calls Try.prog 66 #[.agg #[.string t.name, .slice a t.cols.length p, .slice o t.keys.length z], .agg #[v]] u fun e w' => e = .returned (.bool q7) ∧ Below u.heap.size u w') := fun u v hu h => (rowFits_impl _ t v _ u (hx.on hu) h).mono fun e w' ⟨q, h1, h2, h3⟩ => ⟨by rw [h1, bool_same h2 hq7], h3⟩
  obtain ⟨ac, pc, rfl, _, hpc, _⟩ := hc
  obtain ⟨av, pv, rfl, _, hpv, _⟩ := hv
  obtain ⟨ar, pr, rfl, _, hpr, _⟩ := hr
  have HL0 := Loc.new w #[.string t.name, .slice a t.cols.length p, .slice o t.keys.length z] 32
  have HL := HL0.on (ch_alloc (Below.refl _ _) (.cells #[.slice none 0 0] 41))
  have HO := Own.at (w.alloc (.cells #[.string t.name, .slice a t.cols.length p, .slice o t.keys.length z] 32)) 41 #[.slice none 0 0] (n := w.heap.size + 1) (by simp)
  have hb0 : Below w.heap.size w ((w.alloc (.cells #[.string t.name, .slice a t.cols.length p, .slice o t.keys.length z] 32)).alloc (.cells #[.slice none 0 0] 41)) := (by repeat (first | with_reducible exact Below.refl _ _ | with_reducible assumption | with_reducible refine ch_alloc ?_ _ | with_reducible refine Below.drew ?_ | with_reducible refine below_draws _ ?_ | (with_reducible refine Below.setCell ?_ ?_ _; rotate_left; focus (first | with_reducible exact Nat.le_refl _ | (simp; done) | (simp; omega) | (simp at *; omega))) | with_reducible refine ch_trans ?_ (by with_reducible assumption)))
  clear hx hcs hks hf hcf hq2 hq5 hq7 HL0 ht hrl
  obtain ⟨l0, l1, l2⟩ := HL.three
  go_enter Try.func46, Try.ntmps46
  go_wp2_with fail
  generalize (w.alloc (.cells #[.string t.name, .slice a t.cols.length p, .slice o t.keys.length z] 32)).alloc (.cells #[.slice none 0 0] 41) = u0 at HL HO hb0 l0 l1 l2 ⊢
  refine (HN.out _ hb0).mono ?_
  rintro e w1 ⟨v1, rfl, b1, hg1⟩
  obtain ⟨a1, n1, c1, rfl, hg1⟩ := hg1.lit2
  have HN1 : Hid (StrsV w1 (.slice a1 n1 c1) (colNames t)) := hg1.strs
  have HL1 := HL.on b1
  have HO1 := HO.on b1
  have hb1 := ch_trans hb0 b1
  clear l0 l1 l2 HN HL HO hb0 b1 hg1
  obtain ⟨l0, l1, l2⟩ := HL1.three
  go_wp2_with fail
  refine (H2.out _ hb1).mono ?_
  rintro e w3 ⟨rfl, b3⟩
  have HL3 := HL1.on b3
  have HO3 := HO1.on b3
  have hb3 := ch_trans hb1 b3
  have HN3 : Hid (StrsV w3 (.slice a1 n1 c1) (colNames t)) := HN1.out.on b3
  clear l0 l1 l2 H2 HL1 HO1 hb1 b3 HN1
  obtain ⟨l0, l1, l2⟩ := HL3.three
  cases q2
  rotate_left
  · have HI : Hid (isMapRow cols t vs rest [] 1) := Or.inl ⟨fun h => HQ.out.1.1 (by trivial) h.2.1, rfl, rfl⟩
    have hQ : Own (w3.setCell ⟨w.heap.size + 1, 0, none⟩ (.slice none 0 0)) (w.heap.size + 1) 41 #[.slice none 0 0] := HO3.set 0 _
    have HBd : Hid (Below w.heap.size w (w3.setCell ⟨w.heap.size + 1, 0, none⟩ (.slice none 0 0))) := hb3.setCell (p := ⟨w.heap.size + 1, 0, none⟩) (by show w.heap.size ≤ w.heap.size + 1; omega) _
    have k0 := HO3.frozen 0
    have r0 := HO3.loc.one
    go_wp2
    generalize w3.setCell ⟨w.heap.size + 1, 0, none⟩ (.slice none 0 0) = W at hQ HBd ⊢
    have q0 := hQ.loc.one
    exact bodyPost_ret (v := .tuple #[.agg #[.slice none 0 0], .int .i64 1]) (by simp [results, Try.results46, go_sem, q0]) rfl ⟨_, _, _, rfl, HI.out, HBd.out, Got.nil _ _ _ _⟩
  by_cases hlen : vs.length = cols.length
  rotate_left
  · have HI : Hid (isMapRow cols t vs rest [] 1) := Or.inl ⟨fun h => hlen h.2.2, rfl, rfl⟩
    have hne : ¬ (vs.length : Int) = cols.length := by omega
    clear hlen
    have hQ : Own (w3.setCell ⟨w.heap.size + 1, 0, none⟩ (.slice none 0 0)) (w.heap.size + 1) 41 #[.slice none 0 0] := HO3.set 0 _
    have HBd : Hid (Below w.heap.size w (w3.setCell ⟨w.heap.size + 1, 0, none⟩ (.slice none 0 0))) := hb3.setCell (p := ⟨w.heap.size + 1, 0, none⟩) (by show w.heap.size ≤ w.heap.size + 1; omega) _
    have k0 := HO3.frozen 0
    have r0 := HO3.loc.one
    go_wp2
    generalize w3.setCell ⟨w.heap.size + 1, 0, none⟩ (.slice none 0 0) = W at hQ HBd ⊢
    have q0 := hQ.loc.one
    exact bodyPost_ret (v := .tuple #[.agg #[.slice none 0 0], .int .i64 1]) (by simp [results, Try.results46, go_sem, q0]) rfl ⟨_, _, _, rfl, HI.out, HBd.out, Got.nil _ _ _ _⟩
  have H1 : Hid (mr1 cols t vs) := ⟨HQ.out.2.2.2, Classical.byContradiction fun h => (by have := HQ.out.1.2 h; cases this), hlen⟩
  have heq : (vs.length : Int) = cols.length := by omega
  clear hlen
  go_wp2_with fail
  refine (HP.out _ _ HN3.out).mono ?_
  rintro e w4 ⟨b', rfl, _, b4, hm4⟩
  have HL4 := HL3.on b4
  have HO4 := HO3.on b4
  have hb4 := ch_trans hb3 b4
  have HN4 : Hid (StrsV w4 (.slice a1 n1 c1) (colNames t)) := HN3.out.on b4
  have HM4 : Hid (MapIs Try.prog 9 w4 b' (colNames t).length (nplist (colNames t) (colNames t).length)) := hm4
  clear l0 l1 l2 HP HL3 HO3 hb3 b4 HN3 hm4
  obtain ⟨l0, l1, l2⟩ := HL4.three
  go_wp2_with fail
  refine (H5.out _ _ _ hb4 HM4.out).mono ?_
  rintro e w5 ⟨rfl, b5⟩
  have HL5 := HL4.on b5
  have HO5 := HO4.on b5
  have hb5 := ch_trans hb4 b5
  have HN5 : Hid (StrsV w5 (.slice a1 n1 c1) (colNames t)) := HN4.out.on b5
  clear l0 l1 l2 H5 HL4 HO4 hb4 b5 HN4 HM4
  obtain ⟨l0, l1, l2⟩ := HL5.three
  cases q5
  · have HI : Hid (isMapRow cols t vs rest [] 11) := Or.inr ⟨H1.out, Or.inl ⟨fun h => (by have := HQ.out.2.1.2 h; cases this), rfl, rfl⟩⟩
    have hQ : Own (w5.setCell ⟨w.heap.size + 1, 0, none⟩ (.slice none 0 0)) (w.heap.size + 1) 41 #[.slice none 0 0] := HO5.set 0 _
    have HBd : Hid (Below w.heap.size w (w5.setCell ⟨w.heap.size + 1, 0, none⟩ (.slice none 0 0))) := hb5.setCell (p := ⟨w.heap.size + 1, 0, none⟩) (by show w.heap.size ≤ w.heap.size + 1; omega) _
    have k0 := HO5.frozen 0
    have r0 := HO5.loc.one
    go_wp2
    generalize w5.setCell ⟨w.heap.size + 1, 0, none⟩ (.slice none 0 0) = W at hQ HBd ⊢
    have q0 := hQ.loc.one
    exact bodyPost_ret (v := .tuple #[.agg #[.slice none 0 0], .int .i64 11]) (by simp [results, Try.results46, go_sem, q0]) rfl ⟨_, _, _, rfl, HI.out, HBd.out, Got.nil _ _ _ _⟩
  have HD2 : Hid (drift2 cols t) := HQ.out.2.1.1 (by trivial)
  clear heq
  go_wp2_with fail
  refine (HMO.out _ _ hb5 HN5.out).mono ?_
  rintro e w6 ⟨X, Y, b, rfl, b6, hX, hY, hm⟩
  have HL6 := HL5.on b6
  have HO6 := HO5.on b6
  have hb6 := ch_trans hb5 b6
  have HC6 : Hid (Calls Try.prog 68 #[.slice av vs.length pv, .slice ar rest.length pr, .pointer (some ⟨X, 0, none⟩), .pointer (some ⟨Y, 0, none⟩)] w6 fun e w' => ∃ kv', e = .returned kv' ∧ Below w6.heap.size w6 w' ∧ Got w' w6.heap.size 58 3 kv' ((mapL cols (colNames t) vs rest).map Vc.cells)) := HMP.out H1.out.2.2 w6 _ X Y b hb6 (HN5.out.on b6) hX hY hm
  clear l0 l1 l2 HMO HMP HL5 HO5 hb5 b6 hX hY hm HN5
  obtain ⟨l0, l1, l2⟩ := HL6.three
  go_wp2_with fail
  refine HC6.out.mono ?_
  rintro e w7 ⟨v7, rfl, b7, hg7⟩
  obtain ⟨a7, n7, c7, rfl, hg7⟩ := hg7.lit2
  have HLb : Hid (Loc w7 w.heap.size #[.string t.name, .slice a t.cols.length p, .slice o t.keys.length z]) := HL6.on b7
  have HOb : Hid (Own w7 (w.heap.size + 1) 41 #[.slice none 0 0]) := HO6.on b7
  have HBb : Hid (Below w.heap.size w w7) := ch_trans hb6 b7
  have HGb : Hid (Got w7 w6.heap.size 58 3 (.slice a7 n7 c7) ((mapL cols (colNames t) vs rest).map Vc.cells)) := hg7
  have HS6 : Hid (w.heap.size + 1 < w6.heap.size ∧ w.heap.size ≤ w6.heap.size) := ⟨HO6.lt, hb6.size⟩
  clear l0 l1 l2
  obtain ⟨l0, l1, l2⟩ := HLb.out.three
  have hs7' : w.heap.size < w7.heap.size := by have := HOb.out.lt; omega
  clear HC6 HL6 HO6 b7 hg7 hb6
  go_wp2_with fail
  clear l0 l1 l2
  have hv7 : Below w7.heap.size w7 (w7.alloc (.cells #[.slice a7 n7 c7] 41)) := ch_alloc (Below.refl _ _) _
  have HL7 := HLb.out.on hv7
  have HO7 := HOb.out.on hv7
  have hb7 := ch_trans HBb.out hv7
  have hg8 := HGb.out.on hv7
  have HV7 := hg8.vals
  have HG7 : Hid (Got (w7.alloc (.cells #[.slice a7 n7 c7] 41)) w6.heap.size 58 3 (.slice a7 n7 c7) ((mapL cols (colNames t) vs rest).map Vc.cells)) := hg8
  have HR7 := Loc.new w7 #[.slice a7 n7 c7] 41
  have hs6 := HS6.out.1
  clear hg8 HLb HOb HBb HGb HS6
  generalize w7.alloc (.cells #[.slice a7 n7 c7] 41) = u7 at hv7 HL7 HO7 hb7 HV7 HG7 HR7 ⊢
  obtain ⟨l0, l1, l2⟩ := HL7.three
  have m0 := HR7.one
  refine (HRO.out _ _ hb7 HV7).mono ?_
  rintro e w8 ⟨rfl, b8⟩
  have HO8 := HO7.on b8
  have HR8 := HR7.on b8
  have hb8 := ch_trans hb7 b8
  have HG8 : Hid (Got w8 w6.heap.size 58 3 (.slice a7 n7 c7) ((mapL cols (colNames t) vs rest).map Vc.cells)) := HG7.out.on b8
  clear l0 l1 l2 m0 HRO HL7 HO7 HR7 hb7 b8 HV7 HG7 hv7
  have m0 := HR8.one
  cases q7
  · have HI : Hid (isMapRow cols t vs rest [] 14) := Or.inr ⟨H1.out, Or.inr ⟨HD2.out, Or.inl ⟨fun h => (by have := HQ.out.2.2.1.2 h; cases this), rfl, rfl⟩⟩⟩
    have hQ : Own (w8.setCell ⟨w.heap.size + 1, 0, none⟩ (.slice none 0 0)) (w.heap.size + 1) 41 #[.slice none 0 0] := HO8.set 0 _
    have HBd : Hid (Below w.heap.size w (w8.setCell ⟨w.heap.size + 1, 0, none⟩ (.slice none 0 0))) := hb8.setCell (p := ⟨w.heap.size + 1, 0, none⟩) (by show w.heap.size ≤ w.heap.size + 1; omega) _
    have k0 := HO8.frozen 0
    have r0 := HO8.loc.one
    go_wp2
    generalize w8.setCell ⟨w.heap.size + 1, 0, none⟩ (.slice none 0 0) = W at hQ HBd ⊢
    have q0 := hQ.loc.one
    exact bodyPost_ret (v := .tuple #[.agg #[.slice none 0 0], .int .i64 14]) (by simp [results, Try.results46, go_sem, q0]) rfl ⟨_, _, _, rfl, HI.out, HBd.out, Got.nil _ _ _ _⟩
  · have HI : Hid (isMapRow cols t vs rest (mapL cols (colNames t) vs rest) 0) := Or.inr ⟨H1.out, Or.inr ⟨HD2.out, Or.inr ⟨HQ.out.2.2.1.1 (by trivial), rfl, rfl⟩⟩⟩
    have hQ : Own (w8.setCell ⟨w.heap.size + 1, 0, none⟩ (.slice a7 n7 c7)) (w.heap.size + 1) 41 #[.slice a7 n7 c7] := HO8.set 0 _
    have HBd : Hid (Below w.heap.size w (w8.setCell ⟨w.heap.size + 1, 0, none⟩ (.slice a7 n7 c7))) := hb8.setCell (p := ⟨w.heap.size + 1, 0, none⟩) (by show w.heap.size ≤ w.heap.size + 1; omega) _
    have HGd : Hid (Got (w8.setCell ⟨w.heap.size + 1, 0, none⟩ (.slice a7 n7 c7)) w.heap.size 58 3 (.slice a7 n7 c7) ((mapL cols (colNames t) vs rest).map Vc.cells)) := (HG8.out.turns ((Turns.refl (· = w.heap.size + 1) w8).set (p := ⟨w.heap.size + 1, 0, none⟩) rfl _) fun c hc => by have h2 : c = w.heap.size + 1 := hc; omega).mono (by omega)
    have k0 := HO8.frozen 0
    have r0 := HO8.loc.one
    go_wp2
    generalize w8.setCell ⟨w.heap.size + 1, 0, none⟩ (.slice a7 n7 c7) = W at hQ HBd HGd ⊢
    have q0 := hQ.loc.one
    exact bodyPost_ret (v := .tuple #[.agg #[.slice a7 n7 c7], .int .i64 0]) (by simp [results, Try.results46, go_sem, q0]) rfl ⟨_, _, _, rfl, HI.out, HBd.out, HGd.out⟩
end Go.Proofs.Ytiijahoheajppaa
