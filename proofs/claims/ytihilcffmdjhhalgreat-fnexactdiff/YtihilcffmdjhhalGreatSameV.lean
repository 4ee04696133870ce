/- The places of any table's keys: the landed keyPlacesOf. Whether lists of values are the same: given and landed. -/
import Derived.Test.YtihilcffmdjhhalGreatKp
import Derived.Test.YtihilcffmdjhhalGreatVs
namespace Go.Proofs.YtihilcffmdjhhalGreat
open Go.ChangeShapes Go.WideShapes Go.ChangeAt Go.RowKit

theorem MapIs.look_at_no {P : Program} {k t e : TypeId} {w : World} {b n : Nat} {L : List (ByteArray × Value)} (h : MapIs P k w b n L) (hk : P.underlying k = some .string) (ht : P.underlying t = some (.map k e)) {z : Value} (hz : (zeroValue e).run P w = .ok z w) {s : ByteArray} (hs : s.size ≤ maxLen) (hp : L.find? (fun p => decide (p.1 = s)) = .none) :
    (Instr.lookup t (.map (some b)) (.string s) false).run P w = .ok z w := by
  obtain ⟨D, ho, h1, h2, _⟩ := h
  obtain ⟨v, ps, hr, hv⟩ := ho.lookup (Maps.string_keyed hk) ht hz (zd := .held z) (zp := []) rfl (WideMaps.keyOf_string_mk hk hs)
  have hn : Maps.has D (klit s) = false := by
    rw [h1 s, List.any_eq_false]; intro p hm; have := List.find?_eq_none.1 hp p hm; simpa using this
  rw [Maps.atKey_of_not_has hn] at hv
  have hv' : v = z := by simp [rv] at hv; exact hv.1
  rw [hr, hv']
/-- The places that the landed program tells of any table. -/
def Tc.placesG (t : Tc) : List Int := t.keys.map fun s => if colAt t.cols s < 0 then 0 else colAt t.cols s
theorem right_places {t : Tc} (h : t.right) : t.placesG = t.places := by
  unfold Tc.placesG Tc.places
  refine List.map_congr_left fun s hs => ?_
  obtain ⟨j, hj, rfl⟩ := List.getElem_of_mem hs
  obtain ⟨i, hi, e, _⟩ := right_key h j hj
  rw [e, if_neg (by omega)]

set_option maxRecDepth 100000 in
set_option maxHeartbeats 2000000 in
/-- impl.keyPlacesOf -/
theorem keyPlacesOf_gen (x : Array Value) (t : Tc) (w : World) (hx : TabV w x t) (hf : t.fit) (hl1 : t.keys.length ≤ 1048576) :
    Calls Tryz.prog 106 #[.agg x] w fun e w' => ∃ v, e = .returned v ∧ Below w.heap.size w w' ∧ IntsV w' v t.placesG := by
  obtain ⟨a, p, o, q, rfl, hx, hc, hk⟩ := hx.lit
  have HC : Hid (∀ u : World, ColsV u (.slice a t.cols.length p) t.cols → Calls Tryz.prog 138 #[.slice a t.cols.length p] u fun e w' => ∃ b, e = .returned (.map (some b)) ∧ Below u.heap.size u w' ∧ MapIs Tryz.prog 9 w' b t.cols.length (plist t.cols t.cols.length)) := fun u hu => columnsOf_any _ t.cols u hu hf.2.1
  have HV : Hid (ColsV w (.slice a t.cols.length p) t.cols) := hc
  have HK : Hid (RowAt w o 1 (t.keys.map strX)) := by
    obtain ⟨_, _, e, _, _, h⟩ := hk
    cases e
    exact h
  have HF : Hid (∀ s ∈ t.keys, s.size ≤ maxLen) := hf.2.2
  have HL := Loc.new w #[.string t.name, .slice a t.cols.length p, .slice o t.keys.length q] 68
  clear hx hc hk hf
  go_enter Tryz.func106, Tryz.ntmps106
  go_wp2_with fail
  refine (HC.out _ (HV.out.on (w' := w.alloc (.cells #[.string t.name, .slice a t.cols.length p, .slice o t.keys.length q] 68)) (by repeat (first | with_reducible exact Below.refl _ _ | with_reducible assumption | with_reducible refine ch_alloc ?_ _ | with_reducible refine Below.drew ?_ | with_reducible refine below_draws _ ?_ | (with_reducible refine Below.setCell ?_ ?_ _; rotate_left; focus (first | with_reducible exact Nat.le_refl _ | (simp; done) | (simp; omega) | (simp at *; omega))) | with_reducible refine ch_trans ?_ (by with_reducible assumption))))).mono ?_
  rintro e w1 ⟨b, rfl, b1, hm⟩
  have HM : Hid (MapIs Tryz.prog 9 w1 b t.cols.length (plist t.cols t.cols.length)) := hm
  have HL1 := HL.on b1
  have hb1 : Below w.heap.size w w1 := (by repeat (first | with_reducible exact Below.refl _ _ | with_reducible assumption | with_reducible refine ch_alloc ?_ _ | with_reducible refine Below.drew ?_ | with_reducible refine below_draws _ ?_ | (with_reducible refine Below.setCell ?_ ?_ _; rotate_left; focus (first | with_reducible exact Nat.le_refl _ | (simp; done) | (simp; omega) | (simp at *; omega))) | with_reducible refine ch_trans ?_ (by with_reducible assumption)))
  clear hm b1
  obtain ⟨l0, l1, l2⟩ := HL1.three
  go_wp2
  have HG0 : Hid (Got w1 w1.heap.size 3 1 (.slice none 0 0) ((t.placesG.take 0).map intX)) := Got.nil _ _ _ _
  go_loopw [4, 13] (fun v i wr => ∃ k : Nat, k ≤ t.keys.length ∧ i = .int .i64 k ∧ Below w1.heap.size w1 wr ∧ Hid (Got wr w1.heap.size 3 1 v ((t.placesG.take k).map intX))) (fun _ i _ => t.keys.length - (intOf i).toNat)
  case atStart => exact ⟨0, Nat.zero_le _, rfl, Below.refl _ _, HG0⟩
  case round =>
    clear HG0
    obtain ⟨k, hk, rfl, hb, HG⟩ := hrel
    obtain ⟨a', n', cap', rfl, hg⟩ := HG.out.lit2
    have HG' : Hid (Got wr w1.heap.size 3 1 (.slice a' n' cap') ((t.placesG.take k).map intX)) := hg
    clear HG hg
    by_cases hlt : k < t.keys.length
    · have hlti : (k : Int) < t.keys.length := by omega
      obtain ⟨b', off', rfl, d0⟩ := (HK.out.on (ch_trans hb1 hb)).strs k hlt
      have hfd := plist_find t.cols t.cols.length t.keys[k]
      obtain ⟨i', ty, dt, dn, s, ds, nt, has, hlook, hci⟩ : ∃ (i' : Int) (ty dt dn : Int) (s ds : ByteArray) (nt has : Bool), (Instr.lookup 184 (.map (some b)) (.string t.keys[k]) false).run Tryz.prog wr = .ok (.agg #[.int .i64 i', .string s, .int .i64 ty, .bool nt, .bool has, .int .i64 dt, .int .i64 dn, .string ds]) wr ∧ (if colAt t.cols t.keys[k] < 0 then 0 else colAt t.cols t.keys[k]) = i' := by
        rcases colAt_firsts t.cols t.keys[k] with ⟨h1, h2⟩ | ⟨i, hi, h1, h2⟩
        · rw [h1] at hfd
          exact ⟨0, 0, 0, 0, _, _, false, false, (HM.out.on hb HM.out.lt).look_at_no Tryz.underlying9 Tryz.underlying184 (zeroP _) (HF.out _ (List.getElem_mem hlt)) hfd, by rw [h2]; rfl⟩
        · rw [h1] at hfd
          exact ⟨i, _, _, _, _, _, _, _, (HM.out.on hb HM.out.lt).look_at Tryz.underlying9 Tryz.underlying184 (zeroP _) (HF.out _ (List.getElem_mem hlt)) hfd, by rw [h2, if_neg (by omega)]⟩
      have hpl : (t.placesG.take (k + 1)).map intX = (t.placesG.take k).map intX ++ [intX i'] := by
        have hlp : k < t.placesG.length := by simpa [Tc.placesG] using hlt
        rw [List.take_succ_eq_append_getElem hlp, List.map_append]
        simp [Tc.placesG, hci]
      have HPL : Hid _ := hpl
      have hfa := fieldAt i' ty dt dn s ds nt has wr
      have hB : w1.heap.size ≤ (wr.alloc (.cells #[.int .i64 i'] 3)).heap.size := by have := hb.size; simp; omega
      clear hfd hci hpl
      go_wp2_with (at_builtin; refine app_one rfl (.tmp 17) (.tmp 22) rfl Tryz.underlying150 infoInt rfl (by decide) (by decide) w1.heap.size _ ((t.placesG.take k).map intX) rfl (HG'.out.on (ch_alloc (Below.refl _ _) _)) wr.heap.size 1 (intX i') rfl (Loc.new _ _ _) rfl (fun u hu => by simp at hu; subst hu; rfl) (by simp; omega) hB ?_; intro v' w2 hg2 hb2)
      have HG2 : Hid (Got w2 w1.heap.size 3 1 v' ((t.placesG.take (k + 1)).map intX)) := by
        show Got _ _ _ _ _ _
        rw [HPL.out]; exact hg2
      have hb3 : Below w1.heap.size w1 w2 := Below.trans (ch_alloc hb _) hb2
      go_round
      case rel => exact ⟨k + 1, by omega, by go_num, hb3, HG2⟩
      case measure => simp [intOf]; omega
    · have hlti : (t.keys.length : Int) ≤ k := by omega
      have HI : Hid (IntsV wr (.slice a' n' cap') t.placesG) := by
        obtain ⟨a2, cap2, e, h1, h2, h3, _⟩ := HG'.out.row
        have hpl : t.placesG.take k = t.placesG := List.take_of_length_le (by simp [Tc.placesG]; omega)
        rw [hpl] at e h1 h3
        exact ⟨a2, cap2, by simpa using e, by simpa using h1, h2, h3⟩
      go_wp2
      go_ret
      exact ⟨_, rfl, ch_trans hb1 hb, HI.out⟩
end Go.Proofs.YtihilcffmdjhhalGreat

namespace Go.Proofs.YtihilcffmdjhhalGreat
open Go.ChangeShapes Go.WideShapes Go.ChangeAt Go.RowKit

theorem vc_same {c d : Vc} (e0 : (c.ty == d.ty) = true) (e1 : (c.n == d.n) = true) (e2 : (c.s.toList == d.s.toList) = true) : c = d := by
  rw [str_eq] at e2
  cases c; cases d
  simp at e0 e1 e2
  simp [e0, e1, e2]
theorem vc_cases (c d : Vc) : ((c.ty == d.ty) = true ∧ (c.n == d.n) = true ∧ (c.s.toList == d.s.toList) = true ∧ c = d) ∨ (c ≠ d ∧ ((c.ty == d.ty) = false ∨ ((c.ty == d.ty) = true ∧ (c.n == d.n) = false) ∨ ((c.ty == d.ty) = true ∧ (c.n == d.n) = true ∧ (c.s.toList == d.s.toList) = false))) := by
  cases e0 : c.ty == d.ty
  · exact Or.inr ⟨fun e => by subst e; simp at e0, Or.inl rfl⟩
  cases e1 : c.n == d.n
  · exact Or.inr ⟨fun e => by subst e; simp at e1, Or.inr (Or.inl ⟨rfl, rfl⟩)⟩
  cases e2 : c.s.toList == d.s.toList
  · exact Or.inr ⟨fun e => by subst e; simp at e2, Or.inr (Or.inr ⟨rfl, rfl, rfl⟩)⟩
  · exact Or.inl ⟨rfl, rfl, rfl, vc_same e0 e1 e2⟩

set_option maxRecDepth 100000 in
set_option maxHeartbeats 2000000 in
/-- spec.l03SameVals -/
theorem sameVals_spec (av bv : Value) (cs ds : List Vc) (w : World) (ha : ValsV w av cs) (hb : ValsV w bv ds) : Calls Tryz.prog 102 #[av, bv] w fun e w' => ∃ q : Bool, e = .returned (.bool q) ∧ (q = true ↔ cs = ds) ∧ Below w.heap.size w w' := by
  obtain ⟨a, cap, rfl, hl, hm, hc⟩ := ha
  obtain ⟨a', cap', rfl, hl', hm', hc'⟩ := hb
  unfold maxLen at hm hm'
  have HC : Hid (RowAt w a 3 (cs.map Vc.cells)) := hc
  have HC' : Hid (RowAt w a' 3 (ds.map Vc.cells)) := hc'
  clear hc hc'
  by_cases hn : cs.length = ds.length
  · have hni : ((cs.length : Int) != (ds.length : Int)) = false := by simp; omega
    have hnj : ((cs.length : Int) == (ds.length : Int)) = true := by simp; omega
    have HNL : Hid (cs.length = ds.length) := hn
    clear hn
    go_enter Tryz.func102, Tryz.ntmps102
    go_wp2
    go_loopw [13] (fun i wr => ∃ k : Nat, k ≤ cs.length ∧ i = .int .i64 k ∧ Below w.heap.size w wr ∧ Hid (∀ i (h : i < cs.length) (g : i < ds.length), i < k → cs[i] = ds[i])) (fun i _ => cs.length - (intOf i).toNat)
    case atStart => exact ⟨0, Nat.zero_le _, rfl, (by repeat (first | with_reducible exact Below.refl _ _ | with_reducible assumption | with_reducible refine ch_alloc ?_ _ | with_reducible refine Below.drew ?_ | with_reducible refine below_draws _ ?_ | (with_reducible refine Below.setCell ?_ ?_ _; rotate_left; focus (first | with_reducible exact Nat.le_refl _ | (simp; done) | (simp; omega) | (simp at *; omega))) | with_reducible refine ch_trans ?_ (by with_reducible assumption))), fun i h g hi => by omega⟩
    case round =>
      obtain ⟨k, hk, rfl, hb, HN⟩ := hrel
      by_cases hlt : k < cs.length
      · have hlti : (k : Int) < cs.length := by omega
        have hlt' : k < ds.length := by have := HNL.out; omega
        have hlti' : (k : Int) < ds.length := by omega
        obtain ⟨b, off, rfl, c0, c1, c2⟩ := (HC.out.on hb).vals k hlt
        obtain ⟨b', off', rfl, d0, d1, d2⟩ := (HC'.out.on hb).vals k hlt'
        rcases vc_cases cs[k] ds[k] with ⟨e0, e1, e2, he⟩ | ⟨hne, hcs⟩
        · have HN' : Hid (∀ i (h : i < cs.length) (g : i < ds.length), i < k + 1 → cs[i] = ds[i]) := fun i h g hi => by
            by_cases e : i = k
            · subst e; exact he
            · exact HN.out i h g (by omega)
          clear he
          go_wp2
          go_region
          all_goals
            go_wp2
            go_round
            case rel => exact ⟨k + 1, by omega, by go_num, (by repeat (first | with_reducible exact Below.refl _ _ | with_reducible assumption | with_reducible refine ch_alloc ?_ _ | with_reducible refine Below.drew ?_ | with_reducible refine below_draws _ ?_ | (with_reducible refine Below.setCell ?_ ?_ _; rotate_left; focus (first | with_reducible exact Nat.le_refl _ | (simp; done) | (simp; omega) | (simp at *; omega))) | with_reducible refine ch_trans ?_ (by with_reducible assumption))), HN'⟩
            case measure => simp [intOf]; omega
        · have HB : Hid (cs ≠ ds) := fun e => hne (by subst e; rfl)
          clear hne
          rcases hcs with e0 | ⟨e0, e1⟩ | ⟨e0, e1, e2⟩
          all_goals
            go_wp2
            go_region
            all_goals
              go_wp2
              go_ret
              exact ⟨_, rfl, ⟨fun h => by simp at h, fun h => absurd h HB.out⟩, (by repeat (first | with_reducible exact Below.refl _ _ | with_reducible assumption | with_reducible refine ch_alloc ?_ _ | with_reducible refine Below.drew ?_ | with_reducible refine below_draws _ ?_ | (with_reducible refine Below.setCell ?_ ?_ _; rotate_left; focus (first | with_reducible exact Nat.le_refl _ | (simp; done) | (simp; omega) | (simp at *; omega))) | with_reducible refine ch_trans ?_ (by with_reducible assumption)))⟩
      · have hlti : (cs.length : Int) ≤ k := by omega
        have HY : Hid (cs = ds) := List.ext_getElem HNL.out fun i h g => HN.out i h g (by omega)
        go_wp2
        go_ret
        exact ⟨_, rfl, ⟨fun _ => HY.out, fun _ => rfl⟩, (by repeat (first | with_reducible exact Below.refl _ _ | with_reducible assumption | with_reducible refine ch_alloc ?_ _ | with_reducible refine Below.drew ?_ | with_reducible refine below_draws _ ?_ | (with_reducible refine Below.setCell ?_ ?_ _; rotate_left; focus (first | with_reducible exact Nat.le_refl _ | (simp; done) | (simp; omega) | (simp at *; omega))) | with_reducible refine ch_trans ?_ (by with_reducible assumption)))⟩
  · have HN : Hid (cs ≠ ds) := fun e => hn (by rw [e])
    have hni : ((cs.length : Int) != (ds.length : Int)) = true := by simp; omega
    have hnj : ((cs.length : Int) == (ds.length : Int)) = false := by simp; omega
    clear hn
    go_enter Tryz.func102, Tryz.ntmps102
    go_wp2
    go_ret
    exact ⟨_, rfl, ⟨fun h => by simp at h, fun h => absurd h HN.out⟩, (by repeat (first | with_reducible exact Below.refl _ _ | with_reducible assumption | with_reducible refine ch_alloc ?_ _ | with_reducible refine Below.drew ?_ | with_reducible refine below_draws _ ?_ | (with_reducible refine Below.setCell ?_ ?_ _; rotate_left; focus (first | with_reducible exact Nat.le_refl _ | (simp; done) | (simp; omega) | (simp at *; omega))) | with_reducible refine ch_trans ?_ (by with_reducible assumption)))⟩

set_option maxRecDepth 100000 in
set_option maxHeartbeats 2000000 in
/-- slices.Equal over values -/
theorem equalVals (av bv : Value) (cs ds : List Vc) (w : World) (ha : ValsV w av cs) (hb : ValsV w bv ds) : Calls Tryz.prog 166 #[av, bv] w fun e w' => ∃ q : Bool, e = .returned (.bool q) ∧ (q = true ↔ cs = ds) ∧ Below w.heap.size w w' := by
  obtain ⟨a, cap, rfl, hl, hm, hc⟩ := ha
  obtain ⟨a', cap', rfl, hl', hm', hc'⟩ := hb
  unfold maxLen at hm hm'
  have HC : Hid (RowAt w a 3 (cs.map Vc.cells)) := hc
  have HC' : Hid (RowAt w a' 3 (ds.map Vc.cells)) := hc'
  clear hc hc'
  by_cases hn : cs.length = ds.length
  · have hni : ((cs.length : Int) != (ds.length : Int)) = false := by simp; omega
    have hnj : ((cs.length : Int) == (ds.length : Int)) = true := by simp; omega
    have HNL : Hid (cs.length = ds.length) := hn
    clear hn
    go_enter Tryz.func166, Tryz.ntmps166
    go_wp2
    go_loopw [13] (fun i wr => ∃ k : Nat, k ≤ cs.length ∧ i = .int .i64 k ∧ Below w.heap.size w wr ∧ Hid (∀ i (h : i < cs.length) (g : i < ds.length), i < k → cs[i] = ds[i])) (fun i _ => cs.length - (intOf i).toNat)
    case atStart => exact ⟨0, Nat.zero_le _, rfl, (by repeat (first | with_reducible exact Below.refl _ _ | with_reducible assumption | with_reducible refine ch_alloc ?_ _ | with_reducible refine Below.drew ?_ | with_reducible refine below_draws _ ?_ | (with_reducible refine Below.setCell ?_ ?_ _; rotate_left; focus (first | with_reducible exact Nat.le_refl _ | (simp; done) | (simp; omega) | (simp at *; omega))) | with_reducible refine ch_trans ?_ (by with_reducible assumption))), fun i h g hi => by omega⟩
    case round =>
      obtain ⟨k, hk, rfl, hb, HN⟩ := hrel
      by_cases hlt : k < cs.length
      · have hlti : (k : Int) < cs.length := by omega
        have hlt' : k < ds.length := by have := HNL.out; omega
        have hlti' : (k : Int) < ds.length := by omega
        obtain ⟨b, off, rfl, c0, c1, c2⟩ := (HC.out.on hb).vals k hlt
        obtain ⟨b', off', rfl, d0, d1, d2⟩ := (HC'.out.on hb).vals k hlt'
        rcases vc_cases cs[k] ds[k] with ⟨e0, e1, e2, he⟩ | ⟨hne, hcs⟩
        · have HN' : Hid (∀ i (h : i < cs.length) (g : i < ds.length), i < k + 1 → cs[i] = ds[i]) := fun i h g hi => by
            by_cases e : i = k
            · subst e; exact he
            · exact HN.out i h g (by omega)
          clear he
          go_wp2
          go_region
          all_goals
            go_wp2
            go_round
            case rel => exact ⟨k + 1, by omega, by go_num, (by repeat (first | with_reducible exact Below.refl _ _ | with_reducible assumption | with_reducible refine ch_alloc ?_ _ | with_reducible refine Below.drew ?_ | with_reducible refine below_draws _ ?_ | (with_reducible refine Below.setCell ?_ ?_ _; rotate_left; focus (first | with_reducible exact Nat.le_refl _ | (simp; done) | (simp; omega) | (simp at *; omega))) | with_reducible refine ch_trans ?_ (by with_reducible assumption))), HN'⟩
            case measure => simp [intOf]; omega
        · have HB : Hid (cs ≠ ds) := fun e => hne (by subst e; rfl)
          clear hne
          rcases hcs with e0 | ⟨e0, e1⟩ | ⟨e0, e1, e2⟩
          all_goals
            go_wp2
            go_region
            all_goals
              go_wp2
              go_ret
              exact ⟨_, rfl, ⟨fun h => by simp at h, fun h => absurd h HB.out⟩, (by repeat (first | with_reducible exact Below.refl _ _ | with_reducible assumption | with_reducible refine ch_alloc ?_ _ | with_reducible refine Below.drew ?_ | with_reducible refine below_draws _ ?_ | (with_reducible refine Below.setCell ?_ ?_ _; rotate_left; focus (first | with_reducible exact Nat.le_refl _ | (simp; done) | (simp; omega) | (simp at *; omega))) | with_reducible refine ch_trans ?_ (by with_reducible assumption)))⟩
      · have hlti : (cs.length : Int) ≤ k := by omega
        have HY : Hid (cs = ds) := List.ext_getElem HNL.out fun i h g => HN.out i h g (by omega)
        go_wp2
        go_ret
        exact ⟨_, rfl, ⟨fun _ => HY.out, fun _ => rfl⟩, (by repeat (first | with_reducible exact Below.refl _ _ | with_reducible assumption | with_reducible refine ch_alloc ?_ _ | with_reducible refine Below.drew ?_ | with_reducible refine below_draws _ ?_ | (with_reducible refine Below.setCell ?_ ?_ _; rotate_left; focus (first | with_reducible exact Nat.le_refl _ | (simp; done) | (simp; omega) | (simp at *; omega))) | with_reducible refine ch_trans ?_ (by with_reducible assumption)))⟩
  · have HN : Hid (cs ≠ ds) := fun e => hn (by rw [e])
    have hni : ((cs.length : Int) != (ds.length : Int)) = true := by simp; omega
    have hnj : ((cs.length : Int) == (ds.length : Int)) = false := by simp; omega
    clear hn
    go_enter Tryz.func166, Tryz.ntmps166
    go_wp2
    go_ret
    exact ⟨_, rfl, ⟨fun h => by simp at h, fun h => absurd h HN.out⟩, (by repeat (first | with_reducible exact Below.refl _ _ | with_reducible assumption | with_reducible refine ch_alloc ?_ _ | with_reducible refine Below.drew ?_ | with_reducible refine below_draws _ ?_ | (with_reducible refine Below.setCell ?_ ?_ _; rotate_left; focus (first | with_reducible exact Nat.le_refl _ | (simp; done) | (simp; omega) | (simp at *; omega))) | with_reducible refine ch_trans ?_ (by with_reducible assumption)))⟩
end Go.Proofs.YtihilcffmdjhhalGreat
