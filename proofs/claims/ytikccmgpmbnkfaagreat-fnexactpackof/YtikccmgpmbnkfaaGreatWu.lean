/- Some right values: landed. Rows as bytes: given and landed. -/
import Derived.Test.YtikccmgpmbnkfaaGreatVs
import Derived.Test.YtikccmgpmbnkfaaGreatValOk
import Derived.Test.YtikccmgpmbnkfaaGreatWs
namespace Go.Proofs.YtikccmgpmbnkfaaGreat
open Go.ChangeShapes Go.WideShapes Go.ChangeAt Go.RowKit

/-- Some right values. -/
def someV (l : List Vc) : Prop := 1 ≤ l.length ∧ l.length ≤ 8 ∧ ∀ i (h : i < l.length), okB l[i].ty l[i].n l[i].s = true

set_option maxRecDepth 100000 in
set_option maxHeartbeats 1000000 in
/-- impl.someVals -/
theorem someV_impl (v : Value) (l : List Vc) (w : World) (hv : ValsV w v l) : Calls Tryz.prog 120 #[v] w fun e w' => ∃ q : Bool, e = .returned (.bool q) ∧ (q = true ↔ someV l) ∧ Below w.heap.size w w' := by
  obtain ⟨a, p, rfl, hl, hm, hv⟩ := hv.lit
  unfold maxLen at hm
  have HV : Hid (ValsV w (.slice a l.length p) l) := hv
  clear hv
  by_cases h0 : l.length = 0
  · have HB : Hid (¬ someV l) := fun h => by have := h.1; omega
    have h0' : ((l.length : Int) == 0) = true := by simp [h0]
    clear h0
    go_enter Tryz.func120, Tryz.ntmps120
    go_wp2
    go_ret
    exact ⟨_, rfl, ⟨fun h => by simp at h, fun h => absurd h HB.out⟩, (by repeat (first | with_reducible exact Below.refl _ _ | with_reducible assumption | with_reducible refine ch_alloc ?_ _ | with_reducible refine Below.drew ?_ | with_reducible refine below_draws _ ?_ | (with_reducible refine Below.setCell ?_ ?_ _; rotate_left; focus (first | with_reducible exact Nat.le_refl _ | (simp; done) | (simp; omega) | (simp at *; omega))) | with_reducible refine ch_trans ?_ (by with_reducible assumption)))⟩
  have h0' : ((l.length : Int) == 0) = false := beq_eq_false_iff_ne.2 (by omega)
  by_cases h8 : 8 < l.length
  · have HB : Hid (¬ someV l) := fun h => by have := h.2.1; omega
    have h8' : decide ((8 : Int) < l.length) = true := by simp; omega
    clear h0
    go_enter Tryz.func120, Tryz.ntmps120
    go_wp2
    go_ret
    exact ⟨_, rfl, ⟨fun h => by simp at h, fun h => absurd h HB.out⟩, (by repeat (first | with_reducible exact Below.refl _ _ | with_reducible assumption | with_reducible refine ch_alloc ?_ _ | with_reducible refine Below.drew ?_ | with_reducible refine below_draws _ ?_ | (with_reducible refine Below.setCell ?_ ?_ _; rotate_left; focus (first | with_reducible exact Nat.le_refl _ | (simp; done) | (simp; omega) | (simp at *; omega))) | with_reducible refine ch_trans ?_ (by with_reducible assumption)))⟩
  have h8' : decide ((8 : Int) < l.length) = false := by simp; omega
  have H0 : Hid (¬ l.length = 0) := h0
  clear h0
  go_enter Tryz.func120, Tryz.ntmps120
  go_wp2
  go_loopw [15] (fun i wr => ∃ k : Nat, k ≤ l.length ∧ i = .int .i64 k ∧ Below w.heap.size w wr ∧ Hid (∀ i (h : i < l.length), i < k → okB l[i].ty l[i].n l[i].s = true)) (fun i _ => l.length - (intOf i).toNat)
  case atStart => exact ⟨0, Nat.zero_le _, rfl, (by repeat (first | with_reducible exact Below.refl _ _ | with_reducible assumption | with_reducible refine ch_alloc ?_ _ | with_reducible refine Below.drew ?_ | with_reducible refine below_draws _ ?_ | (with_reducible refine Below.setCell ?_ ?_ _; rotate_left; focus (first | with_reducible exact Nat.le_refl _ | (simp; done) | (simp; omega) | (simp at *; omega))) | with_reducible refine ch_trans ?_ (by with_reducible assumption))), fun i h hi => by omega⟩
  case round =>
    obtain ⟨k, hk, rfl, hb, HN⟩ := hrel
    by_cases hlt : k < l.length
    · have hlti : (k : Int) < l.length := by omega
      obtain ⟨b, off, rfl, d0, d1, d2⟩ := (HV.out.on hb).row.vals k hlt
      have HS : Hid (∀ u : World, Calls Tryz.prog 143 #[V l[k].ty l[k].n l[k].s] u fun e w' => e = .returned (.bool (okB l[k].ty l[k].n l[k].s)) ∧ Below u.heap.size u w') := fun u => (ok_impl _ _ _ u).mono fun e w' ⟨h1, k, h2⟩ => ⟨h1, by rw [h2]; exact below_draws _ (ch_alloc (ch_alloc (Below.refl _ _) _) _)⟩
      have HE : Hid (someV l → okB l[k].ty l[k].n l[k].s = true) := fun h => h.2.2 k hlt
      have HG : Hid (okB l[k].ty l[k].n l[k].s = true → ∀ i (h : i < l.length), i < k + 1 → okB l[i].ty l[i].n l[i].s = true) := fun hq i h hi => by
        by_cases e : i = k
        · subst e; exact hq
        · exact HN.out i h (by omega)
      generalize okB l[k].ty l[k].n l[k].s = q at HS HE HG
      go_wp2_with fail
      refine (HS.out _).mono ?_
      rintro e w1 ⟨rfl, b1⟩
      have hb1 : Below w.heap.size w w1 := (by repeat (first | with_reducible exact Below.refl _ _ | with_reducible assumption | with_reducible refine ch_alloc ?_ _ | with_reducible refine Below.drew ?_ | with_reducible refine below_draws _ ?_ | (with_reducible refine Below.setCell ?_ ?_ _; rotate_left; focus (first | with_reducible exact Nat.le_refl _ | (simp; done) | (simp; omega) | (simp at *; omega))) | with_reducible refine ch_trans ?_ (by with_reducible assumption)))
      clear b1
      cases q
      · have HB : Hid (¬ someV l) := fun h => by have := HE.out h; cases this
        go_wp2
        go_ret
        exact ⟨_, rfl, ⟨fun h => by simp at h, fun h => absurd h HB.out⟩, hb1⟩
      · have HN' : Hid (∀ i (h : i < l.length), i < k + 1 → okB l[i].ty l[i].n l[i].s = true) := HG.out rfl
        go_wp2
        go_round
        case rel => exact ⟨k + 1, by omega, by go_num, hb1, HN'⟩
        case measure => simp [intOf]; omega
    · have hlti : (l.length : Int) ≤ k := by omega
      have HA : Hid (∀ i (h : i < l.length), okB l[i].ty l[i].n l[i].s = true) := fun i h => HN.out i h (by omega)
      have HY : Hid (someV l) := ⟨by have := H0.out; omega, by omega, HA.out⟩
      go_wp2
      go_ret
      exact ⟨_, rfl, ⟨fun _ => HY.out, fun _ => rfl⟩, hb⟩
end Go.Proofs.YtikccmgpmbnkfaaGreat

namespace Go.Proofs.YtikccmgpmbnkfaaGreat
open Go.ChangeShapes Go.WideShapes Go.ChangeAt Go.RowKit

/-- A row of values as bytes. -/
def rowL (vs : List Vc) : List UInt8 := UInt8.ofNat vs.length :: vs.flatMap valL
def okRow (vs : List Vc) : Prop := vs.length ≤ 8 ∧ ∀ c ∈ vs, okB c.ty c.n c.s = true
theorem rowL_length {vs : List Vc} (h : okRow vs) : (rowL vs).length ≤ 257 := by
  have h1 := flat_val vs h.2
  have h2 := h.1
  rw [rowL, List.length_cons]; omega
theorem someV_row {vs : List Vc} : someV vs ↔ 1 ≤ vs.length ∧ okRow vs := by
  constructor
  · rintro ⟨h1, h2, h3⟩
    refine ⟨h1, h2, fun c hc => ?_⟩
    obtain ⟨i, hi, rfl⟩ := List.getElem_of_mem hc
    exact h3 i hi
  · rintro ⟨h1, h2, h3⟩
    exact ⟨h1, h2, fun i hi => h3 _ (List.getElem_mem hi)⟩
set_option maxRecDepth 100000 in
set_option maxHeartbeats 1000000 in
/-- spec.RowBytes -/
theorem rowBytes_spec (v : Value) (vs : List Vc) (w : World) (hv : ValsV w v vs) (q : Bool) (L : List UInt8) (hq : (q = true ∧ okRow vs ∧ L = rowL vs) ∨ (q = false ∧ ¬ okRow vs ∧ L = [])) :
    Calls Tryz.prog 65 #[v] w fun e w' => ∃ v', e = .returned (.tuple #[v', .bool q]) ∧ Below w.heap.size w w' ∧ Got w' w.heap.size 5 1 v' (L.map byX) := by
  obtain ⟨a, p, rfl, hlp, hm, hv⟩ := hv.lit
  unfold maxLen at hm
  have HV : Hid (ValsV w (.slice a vs.length p) vs) := hv
  clear hv
  by_cases h8 : 8 < vs.length
  · obtain ⟨rfl, rfl⟩ : q = false ∧ L = [] := by
      rcases hq with ⟨_, h, _⟩ | ⟨h, _, h'⟩
      · exact absurd h.1 (by omega)
      · exact ⟨h, h'⟩
    clear hq
    have h8' : (8 : Int) < vs.length := by omega
    go_enter Tryz.func65, Tryz.ntmps65
    go_wp2
    go_ret2
    exact ⟨_, rfl, (by repeat (first | with_reducible exact Below.refl _ _ | with_reducible assumption | with_reducible refine ch_alloc ?_ _ | with_reducible refine Below.drew ?_ | with_reducible refine below_draws _ ?_ | (with_reducible refine Below.setCell ?_ ?_ _; rotate_left; focus (first | with_reducible exact Nat.le_refl _ | (simp; done) | (simp; omega) | (simp at *; omega))) | with_reducible refine ch_trans ?_ (by with_reducible assumption))), Got.nil _ _ _ _⟩
  have h8' : (vs.length : Int) ≤ 8 := by omega
  have HQ : Hid ((q = true ∧ okRow vs ∧ L = rowL vs) ∨ (q = false ∧ ¬ okRow vs ∧ L = [])) := hq
  clear hq
  have HG0 : Hid (Got (w.alloc (.cells #[.int .u8 (vs.length : Int)] 5)) w.heap.size 5 1 (.slice (some ⟨w.heap.size, 0, none⟩) 1 1) ([UInt8.ofNat vs.length].map byX)) := got_oneI w _ _ (by rw [UInt8.toNat_ofNat', Nat.mod_eq_of_lt (by omega)])
  go_enter Tryz.func65, Tryz.ntmps65
  go_wp2
  go_loopw [4, 18] (fun bv i wr => ∃ k : Nat, k ≤ vs.length ∧ i = .int .i64 (k : Int) ∧ Below w.heap.size w wr ∧ Hid (∀ c ∈ vs.take k, okB c.ty c.n c.s = true) ∧ Hid (Got wr w.heap.size 5 1 bv ((UInt8.ofNat vs.length :: (vs.take k).flatMap valL).map byX))) (fun _ i _ => vs.length - (intOf i).toNat)
  case atStart => exact ⟨0, Nat.zero_le _, rfl, (by repeat (first | with_reducible exact Below.refl _ _ | with_reducible assumption | with_reducible refine ch_alloc ?_ _ | with_reducible refine Below.drew ?_ | with_reducible refine below_draws _ ?_ | (with_reducible refine Below.setCell ?_ ?_ _; rotate_left; focus (first | with_reducible exact Nat.le_refl _ | (simp; done) | (simp; omega) | (simp at *; omega))) | with_reducible refine ch_trans ?_ (by with_reducible assumption))), fun c hc => by simp at hc, HG0⟩
  case round =>
    clear HG0
    obtain ⟨k, hk, rfl, hb, HK, HG⟩ := hrel
    obtain ⟨a1, n1, c1, rfl, hg1⟩ := HG.out.lit2
    have HG1 : Hid (Got wr w.heap.size 5 1 (.slice a1 n1 c1) ((UInt8.ofNat vs.length :: (vs.take k).flatMap valL).map byX)) := hg1
    clear hg1 HG
    by_cases hlt : k < vs.length
    · have hlti : (k : Int) < vs.length := by omega
      obtain ⟨b, off, rfl, d0, d1, d2⟩ := (HV.out.on hb).row.vals k hlt
      have hbs := hb.size
      have HKL : Hid ((UInt8.ofNat vs.length :: (vs.take k).flatMap valL).length ≤ 1000) := by
        have h1 := flat_val (vs.take k) HK.out
        have h2 : (vs.take k).length ≤ 8 := by simp; omega
        show _ ≤ _
        rw [List.length_cons]; omega
      cases hok : okB vs[k].ty vs[k].n vs[k].s with
      | true =>
        have HS : Hid (∀ u : World, Calls Tryz.prog 103 #[.agg #[.int .i64 vs[k].ty, .int .i64 vs[k].n, .string vs[k].s]] u fun e w' => ∃ v', e = .returned (.tuple #[v', .bool true]) ∧ Below u.heap.size u w' ∧ Got w' u.heap.size 5 1 v' ((valL vs[k]).map byX)) := fun u => valBytes_spec _ _ _ u true _ (Or.inl ⟨rfl, hok, rfl⟩)
        have HK' : Hid (∀ c ∈ vs.take (k + 1), okB c.ty c.n c.s = true) := fun c hc => by
          rw [List.take_succ_eq_append_getElem hlt, List.mem_append] at hc
          rcases hc with hc | hc
          · exact HK.out c hc
          · simp at hc; subst hc; exact hok
        have HVL : Hid (1 ≤ (valL vs[k]).length ∧ (valL vs[k]).length ≤ 32) := ⟨by simp [valL], valL_length hok⟩
        have HFL : Hid ((UInt8.ofNat vs.length :: (vs.take k).flatMap valL) ++ valL vs[k] = UInt8.ofNat vs.length :: (vs.take (k + 1)).flatMap valL) := by
          show _ = _
          rw [List.take_succ_eq_append_getElem hlt, List.flatMap_append, List.cons_append]
          simp
        clear hok
        generalize vs[k].ty = ty at d0 HS
        generalize vs[k].n = n at d1 HS
        generalize vs[k].s = x at d2 HS
        go_wp2_with fail
        refine (HS.out _).mono ?_
        rintro e w1 ⟨v', rfl, b1, hg2⟩
        obtain ⟨a2, c2, rfl, _, _, hr2, _⟩ := hg2.row
        obtain ⟨b2, off2, rfl, _⟩ := hr2.bytes 0 (by have := HVL.out.1; omega)
        have HR2 : Hid (RowAt w1 (some ⟨b2, off2, none⟩) 1 ((valL vs[k]).map byX)) := hr2
        rw [List.length_map]
        have hl1 := HVL.out.1
        have hl2 := HVL.out.2
        generalize valL vs[k] = X at HR2 HFL hl1 hl2 ⊢
        have HG11 : Hid (Got w1 w.heap.size 5 1 (.slice a1 n1 c1) ((UInt8.ofNat vs.length :: (vs.take k).flatMap valL).map byX)) := HG1.out.on (by repeat (first | with_reducible exact Below.refl _ _ | with_reducible assumption | with_reducible refine ch_alloc ?_ _ | with_reducible refine Below.drew ?_ | with_reducible refine below_draws _ ?_ | (with_reducible refine Below.setCell ?_ ?_ _; rotate_left; focus (first | with_reducible exact Nat.le_refl _ | (simp; done) | (simp; omega) | (simp at *; omega))) | with_reducible refine ch_trans ?_ (by with_reducible assumption)))
        have hb1 : Below w.heap.size w w1 := (by repeat (first | with_reducible exact Below.refl _ _ | with_reducible assumption | with_reducible refine ch_alloc ?_ _ | with_reducible refine Below.drew ?_ | with_reducible refine below_draws _ ?_ | (with_reducible refine Below.setCell ?_ ?_ _; rotate_left; focus (first | with_reducible exact Nat.le_refl _ | (simp; done) | (simp; omega) | (simp at *; omega))) | with_reducible refine ch_trans ?_ (by with_reducible assumption)))
        clear hg2 hr2 b1
        go_wp2_with (at_builtin; refine app_lot rfl (.tmp 29) (.tmp 30) rfl Tryz.underlying26 infoByte rfl (by decide) (by decide) w.heap.size _ _ rfl HG11.out b2 off2 _ (X.map byX) X.length (by simp) rfl HR2.out (byte_one _) (by have := HKL.out; simp only [List.length_map]; omega) hb1.size ?_; intro v3 w3 hg3 hb3)
        go_round
        case rel => exact ⟨k + 1, by omega, by go_num, hb1.trans hb3, HK', by
          show Got _ _ _ _ _ _
          rw [← HFL.out, List.map_append]; exact hg3⟩
        case measure => simp [intOf]; omega
      | false =>
        have HS : Hid (∀ u : World, Calls Tryz.prog 103 #[.agg #[.int .i64 vs[k].ty, .int .i64 vs[k].n, .string vs[k].s]] u fun e w' => ∃ v', e = .returned (.tuple #[v', .bool false]) ∧ Below u.heap.size u w' ∧ Got w' u.heap.size 5 1 v' (([] : List UInt8).map byX)) := fun u => valBytes_spec _ _ _ u false _ (Or.inr ⟨rfl, hok, rfl⟩)
        obtain ⟨rfl, rfl⟩ : q = false ∧ L = [] := by
          rcases HQ.out with ⟨_, h, _⟩ | ⟨h, _, h'⟩
          · have := h.2 _ (List.getElem_mem hlt)
            rw [hok] at this
            cases this
          · exact ⟨h, h'⟩
        clear hok HQ
        generalize vs[k].ty = ty at d0 HS
        generalize vs[k].n = n at d1 HS
        generalize vs[k].s = x at d2 HS
        go_wp2_with fail
        refine (HS.out _).mono ?_
        rintro e w1 ⟨v', rfl, b1, hg2⟩
        go_wp2
        go_ret2
        exact ⟨_, rfl, (by repeat (first | with_reducible exact Below.refl _ _ | with_reducible assumption | with_reducible refine ch_alloc ?_ _ | with_reducible refine Below.drew ?_ | with_reducible refine below_draws _ ?_ | (with_reducible refine Below.setCell ?_ ?_ _; rotate_left; focus (first | with_reducible exact Nat.le_refl _ | (simp; done) | (simp; omega) | (simp at *; omega))) | with_reducible refine ch_trans ?_ (by with_reducible assumption))), Got.nil _ _ _ _⟩
    · have hlti : (vs.length : Int) ≤ k := by omega
      have HA : Hid (∀ c ∈ vs, okB c.ty c.n c.s = true) := by
        have := HK.out
        rwa [List.take_of_length_le (by omega)] at this
      have HGE : Hid (Got wr w.heap.size 5 1 (.slice a1 n1 c1) ((rowL vs).map byX)) := by
        have := HG1.out
        rwa [List.take_of_length_le (by omega)] at this
      obtain ⟨rfl, rfl⟩ : q = true ∧ L = rowL vs := by
        rcases HQ.out with ⟨h, _, h'⟩ | ⟨_, h, _⟩
        · exact ⟨h, h'⟩
        · exact absurd ⟨by omega, HA.out⟩ h
      go_wp2
      go_ret2
      exact ⟨_, rfl, (by repeat (first | with_reducible exact Below.refl _ _ | with_reducible assumption | with_reducible refine ch_alloc ?_ _ | with_reducible refine Below.drew ?_ | with_reducible refine below_draws _ ?_ | (with_reducible refine Below.setCell ?_ ?_ _; rotate_left; focus (first | with_reducible exact Nat.le_refl _ | (simp; done) | (simp; omega) | (simp at *; omega))) | with_reducible refine ch_trans ?_ (by with_reducible assumption))), HGE.out⟩
end Go.Proofs.YtikccmgpmbnkfaaGreat
