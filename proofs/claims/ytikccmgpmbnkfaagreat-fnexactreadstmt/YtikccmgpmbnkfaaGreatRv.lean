/- Some right values: landed. Rows as bytes: given and landed. Numbers as bytes, read; the sum: given and landed. Values read from bytes, plainly: what a reader that takes bytes off the front reads. -/
import Derived.Test.YtikccmgpmbnkfaaGreatVs
import Derived.Test.YtikccmgpmbnkfaaGreatValOk
import Derived.Test.YtikccmgpmbnkfaaGreatWs
import Derived.Test.YtikccmgpmbnkfaaGreatPn
namespace Go.Proofs.YtikccmgpmbnkfaaGreat
open Go.ChangeShapes Go.WideShapes Go.ChangeAt Go.RowKit

/-- Some right values. -/
def someV (l : List Vc) : Prop := 1 ≤ l.length ∧ l.length ≤ 8 ∧ ∀ i (h : i < l.length), okB l[i].ty l[i].n l[i].s = true

set_option maxRecDepth 100000 in
set_option maxHeartbeats 1000000 in
/-- impl.someVals -/
theorem someV_impl (v : Value) (l : List Vc) (w : World) (hv : ValsV w v l) : Calls Tryz.prog 120 #[v] w fun e w' => ∃ q : Bool, e = .returned (.bool q) ∧ (q = true ↔ someV l) ∧ Below w.heap.size w w' := by
  obtain ⟨a, p, rfl, hl, hm, hv⟩ := hv.lit
  unfold maxLen at hm
  have HV : Hid (ValsV w (.slice a l.length p) l) := hv
  clear hv
  by_cases h0 : l.length = 0
  · have HB : Hid (¬ someV l) := fun h => by have := h.1; omega
    have h0' : ((l.length : Int) == 0) = true := by simp [h0]
    clear h0
    go_enter Tryz.func120, Tryz.ntmps120
    go_wp2
    go_ret
    exact ⟨_, rfl, ⟨fun h => by simp at h, fun h => absurd h HB.out⟩, (by repeat (first | with_reducible exact Below.refl _ _ | with_reducible assumption | with_reducible refine ch_alloc ?_ _ | with_reducible refine Below.drew ?_ | with_reducible refine below_draws _ ?_ | (with_reducible refine Below.setCell ?_ ?_ _; rotate_left; focus (first | with_reducible exact Nat.le_refl _ | (simp; done) | (simp; omega) | (simp at *; omega))) | with_reducible refine ch_trans ?_ (by with_reducible assumption)))⟩
  have h0' : ((l.length : Int) == 0) = false := beq_eq_false_iff_ne.2 (by omega)
  by_cases h8 : 8 < l.length
  · have HB : Hid (¬ someV l) := fun h => by have := h.2.1; omega
    have h8' : decide ((8 : Int) < l.length) = true := by simp; omega
    clear h0
    go_enter Tryz.func120, Tryz.ntmps120
    go_wp2
    go_ret
    exact ⟨_, rfl, ⟨fun h => by simp at h, fun h => absurd h HB.out⟩, (by repeat (first | with_reducible exact Below.refl _ _ | with_reducible assumption | with_reducible refine ch_alloc ?_ _ | with_reducible refine Below.drew ?_ | with_reducible refine below_draws _ ?_ | (with_reducible refine Below.setCell ?_ ?_ _; rotate_left; focus (first | with_reducible exact Nat.le_refl _ | (simp; done) | (simp; omega) | (simp at *; omega))) | with_reducible refine ch_trans ?_ (by with_reducible assumption)))⟩
  have h8' : decide ((8 : Int) < l.length) = false := by simp; omega
  have H0 : Hid (¬ l.length = 0) := h0
  clear h0
  go_enter Tryz.func120, Tryz.ntmps120
  go_wp2
  go_loopw [15] (fun i wr => ∃ k : Nat, k ≤ l.length ∧ i = .int .i64 k ∧ Below w.heap.size w wr ∧ Hid (∀ i (h : i < l.length), i < k → okB l[i].ty l[i].n l[i].s = true)) (fun i _ => l.length - (intOf i).toNat)
  case atStart => exact ⟨0, Nat.zero_le _, rfl, (by repeat (first | with_reducible exact Below.refl _ _ | with_reducible assumption | with_reducible refine ch_alloc ?_ _ | with_reducible refine Below.drew ?_ | with_reducible refine below_draws _ ?_ | (with_reducible refine Below.setCell ?_ ?_ _; rotate_left; focus (first | with_reducible exact Nat.le_refl _ | (simp; done) | (simp; omega) | (simp at *; omega))) | with_reducible refine ch_trans ?_ (by with_reducible assumption))), fun i h hi => by omega⟩
  case round =>
    obtain ⟨k, hk, rfl, hb, HN⟩ := hrel
    by_cases hlt : k < l.length
    · have hlti : (k : Int) < l.length := by omega
      obtain ⟨b, off, rfl, d0, d1, d2⟩ := (HV.out.on hb).row.vals k hlt
      have HS : Hid (∀ u : World, Calls Tryz.prog 143 #[V l[k].ty l[k].n l[k].s] u fun e w' => e = .returned (.bool (okB l[k].ty l[k].n l[k].s)) ∧ Below u.heap.size u w') := fun u => (ok_impl _ _ _ u).mono fun e w' ⟨h1, k, h2⟩ => ⟨h1, by rw [h2]; exact below_draws _ (ch_alloc (ch_alloc (Below.refl _ _) _) _)⟩
      have HE : Hid (someV l → okB l[k].ty l[k].n l[k].s = true) := fun h => h.2.2 k hlt
      have HG : Hid (okB l[k].ty l[k].n l[k].s = true → ∀ i (h : i < l.length), i < k + 1 → okB l[i].ty l[i].n l[i].s = true) := fun hq i h hi => by
        by_cases e : i = k
        · subst e; exact hq
        · exact HN.out i h (by omega)
      generalize okB l[k].ty l[k].n l[k].s = q at HS HE HG
      go_wp2_with fail
      refine (HS.out _).mono ?_
      rintro e w1 ⟨rfl, b1⟩
      have hb1 : Below w.heap.size w w1 := (by repeat (first | with_reducible exact Below.refl _ _ | with_reducible assumption | with_reducible refine ch_alloc ?_ _ | with_reducible refine Below.drew ?_ | with_reducible refine below_draws _ ?_ | (with_reducible refine Below.setCell ?_ ?_ _; rotate_left; focus (first | with_reducible exact Nat.le_refl _ | (simp; done) | (simp; omega) | (simp at *; omega))) | with_reducible refine ch_trans ?_ (by with_reducible assumption)))
      clear b1
      cases q
      · have HB : Hid (¬ someV l) := fun h => by have := HE.out h; cases this
        go_wp2
        go_ret
        exact ⟨_, rfl, ⟨fun h => by simp at h, fun h => absurd h HB.out⟩, hb1⟩
      · have HN' : Hid (∀ i (h : i < l.length), i < k + 1 → okB l[i].ty l[i].n l[i].s = true) := HG.out rfl
        go_wp2
        go_round
        case rel => exact ⟨k + 1, by omega, by go_num, hb1, HN'⟩
        case measure => simp [intOf]; omega
    · have hlti : (l.length : Int) ≤ k := by omega
      have HA : Hid (∀ i (h : i < l.length), okB l[i].ty l[i].n l[i].s = true) := fun i h => HN.out i h (by omega)
      have HY : Hid (someV l) := ⟨by have := H0.out; omega, by omega, HA.out⟩
      go_wp2
      go_ret
      exact ⟨_, rfl, ⟨fun _ => HY.out, fun _ => rfl⟩, hb⟩
end Go.Proofs.YtikccmgpmbnkfaaGreat

namespace Go.Proofs.YtikccmgpmbnkfaaGreat
open Go.ChangeShapes Go.WideShapes Go.ChangeAt Go.RowKit

/-- A row of values as bytes. -/
def rowL (vs : List Vc) : List UInt8 := UInt8.ofNat vs.length :: vs.flatMap valL
def okRow (vs : List Vc) : Prop := vs.length ≤ 8 ∧ ∀ c ∈ vs, okB c.ty c.n c.s = true
theorem rowL_length {vs : List Vc} (h : okRow vs) : (rowL vs).length ≤ 257 := by
  have h1 := flat_val vs h.2
  have h2 := h.1
  rw [rowL, List.length_cons]; omega
theorem someV_row {vs : List Vc} : someV vs ↔ 1 ≤ vs.length ∧ okRow vs := by
  constructor
  · rintro ⟨h1, h2, h3⟩
    refine ⟨h1, h2, fun c hc => ?_⟩
    obtain ⟨i, hi, rfl⟩ := List.getElem_of_mem hc
    exact h3 i hi
  · rintro ⟨h1, h2, h3⟩
    exact ⟨h1, h2, fun i hi => h3 _ (List.getElem_mem hi)⟩
set_option maxRecDepth 100000 in
set_option maxHeartbeats 1000000 in
/-- spec.RowBytes -/
theorem rowBytes_spec (v : Value) (vs : List Vc) (w : World) (hv : ValsV w v vs) (q : Bool) (L : List UInt8) (hq : (q = true ∧ okRow vs ∧ L = rowL vs) ∨ (q = false ∧ ¬ okRow vs ∧ L = [])) :
    Calls Tryz.prog 65 #[v] w fun e w' => ∃ v', e = .returned (.tuple #[v', .bool q]) ∧ Below w.heap.size w w' ∧ Got w' w.heap.size 5 1 v' (L.map byX) := by
  obtain ⟨a, p, rfl, hlp, hm, hv⟩ := hv.lit
  unfold maxLen at hm
  have HV : Hid (ValsV w (.slice a vs.length p) vs) := hv
  clear hv
  by_cases h8 : 8 < vs.length
  · obtain ⟨rfl, rfl⟩ : q = false ∧ L = [] := by
      rcases hq with ⟨_, h, _⟩ | ⟨h, _, h'⟩
      · exact absurd h.1 (by omega)
      · exact ⟨h, h'⟩
    clear hq
    have h8' : (8 : Int) < vs.length := by omega
    go_enter Tryz.func65, Tryz.ntmps65
    go_wp2
    go_ret2
    exact ⟨_, rfl, (by repeat (first | with_reducible exact Below.refl _ _ | with_reducible assumption | with_reducible refine ch_alloc ?_ _ | with_reducible refine Below.drew ?_ | with_reducible refine below_draws _ ?_ | (with_reducible refine Below.setCell ?_ ?_ _; rotate_left; focus (first | with_reducible exact Nat.le_refl _ | (simp; done) | (simp; omega) | (simp at *; omega))) | with_reducible refine ch_trans ?_ (by with_reducible assumption))), Got.nil _ _ _ _⟩
  have h8' : (vs.length : Int) ≤ 8 := by omega
  have HQ : Hid ((q = true ∧ okRow vs ∧ L = rowL vs) ∨ (q = false ∧ ¬ okRow vs ∧ L = [])) := hq
  clear hq
  have HG0 : Hid (Got (w.alloc (.cells #[.int .u8 (vs.length : Int)] 5)) w.heap.size 5 1 (.slice (some ⟨w.heap.size, 0, none⟩) 1 1) ([UInt8.ofNat vs.length].map byX)) := got_oneI w _ _ (by rw [UInt8.toNat_ofNat', Nat.mod_eq_of_lt (by omega)])
  go_enter Tryz.func65, Tryz.ntmps65
  go_wp2
  go_loopw [4, 18] (fun bv i wr => ∃ k : Nat, k ≤ vs.length ∧ i = .int .i64 (k : Int) ∧ Below w.heap.size w wr ∧ Hid (∀ c ∈ vs.take k, okB c.ty c.n c.s = true) ∧ Hid (Got wr w.heap.size 5 1 bv ((UInt8.ofNat vs.length :: (vs.take k).flatMap valL).map byX))) (fun _ i _ => vs.length - (intOf i).toNat)
  case atStart => exact ⟨0, Nat.zero_le _, rfl, (by repeat (first | with_reducible exact Below.refl _ _ | with_reducible assumption | with_reducible refine ch_alloc ?_ _ | with_reducible refine Below.drew ?_ | with_reducible refine below_draws _ ?_ | (with_reducible refine Below.setCell ?_ ?_ _; rotate_left; focus (first | with_reducible exact Nat.le_refl _ | (simp; done) | (simp; omega) | (simp at *; omega))) | with_reducible refine ch_trans ?_ (by with_reducible assumption))), fun c hc => by simp at hc, HG0⟩
  case round =>
    clear HG0
    obtain ⟨k, hk, rfl, hb, HK, HG⟩ := hrel
    obtain ⟨a1, n1, c1, rfl, hg1⟩ := HG.out.lit2
    have HG1 : Hid (Got wr w.heap.size 5 1 (.slice a1 n1 c1) ((UInt8.ofNat vs.length :: (vs.take k).flatMap valL).map byX)) := hg1
    clear hg1 HG
    by_cases hlt : k < vs.length
    · have hlti : (k : Int) < vs.length := by omega
      obtain ⟨b, off, rfl, d0, d1, d2⟩ := (HV.out.on hb).row.vals k hlt
      have hbs := hb.size
      have HKL : Hid ((UInt8.ofNat vs.length :: (vs.take k).flatMap valL).length ≤ 1000) := by
        have h1 := flat_val (vs.take k) HK.out
        have h2 : (vs.take k).length ≤ 8 := by simp; omega
        show _ ≤ _
        rw [List.length_cons]; omega
      cases hok : okB vs[k].ty vs[k].n vs[k].s with
      | true =>
        have HS : Hid (∀ u : World, Calls Tryz.prog 103 #[.agg #[.int .i64 vs[k].ty, .int .i64 vs[k].n, .string vs[k].s]] u fun e w' => ∃ v', e = .returned (.tuple #[v', .bool true]) ∧ Below u.heap.size u w' ∧ Got w' u.heap.size 5 1 v' ((valL vs[k]).map byX)) := fun u => valBytes_spec _ _ _ u true _ (Or.inl ⟨rfl, hok, rfl⟩)
        have HK' : Hid (∀ c ∈ vs.take (k + 1), okB c.ty c.n c.s = true) := fun c hc => by
          rw [List.take_succ_eq_append_getElem hlt, List.mem_append] at hc
          rcases hc with hc | hc
          · exact HK.out c hc
          · simp at hc; subst hc; exact hok
        have HVL : Hid (1 ≤ (valL vs[k]).length ∧ (valL vs[k]).length ≤ 32) := ⟨by simp [valL], valL_length hok⟩
        have HFL : Hid ((UInt8.ofNat vs.length :: (vs.take k).flatMap valL) ++ valL vs[k] = UInt8.ofNat vs.length :: (vs.take (k + 1)).flatMap valL) := by
          show _ = _
          rw [List.take_succ_eq_append_getElem hlt, List.flatMap_append, List.cons_append]
          simp
        clear hok
        generalize vs[k].ty = ty at d0 HS
        generalize vs[k].n = n at d1 HS
        generalize vs[k].s = x at d2 HS
        go_wp2_with fail
        refine (HS.out _).mono ?_
        rintro e w1 ⟨v', rfl, b1, hg2⟩
        obtain ⟨a2, c2, rfl, _, _, hr2, _⟩ := hg2.row
        obtain ⟨b2, off2, rfl, _⟩ := hr2.bytes 0 (by have := HVL.out.1; omega)
        have HR2 : Hid (RowAt w1 (some ⟨b2, off2, none⟩) 1 ((valL vs[k]).map byX)) := hr2
        rw [List.length_map]
        have hl1 := HVL.out.1
        have hl2 := HVL.out.2
        generalize valL vs[k] = X at HR2 HFL hl1 hl2 ⊢
        have HG11 : Hid (Got w1 w.heap.size 5 1 (.slice a1 n1 c1) ((UInt8.ofNat vs.length :: (vs.take k).flatMap valL).map byX)) := HG1.out.on (by repeat (first | with_reducible exact Below.refl _ _ | with_reducible assumption | with_reducible refine ch_alloc ?_ _ | with_reducible refine Below.drew ?_ | with_reducible refine below_draws _ ?_ | (with_reducible refine Below.setCell ?_ ?_ _; rotate_left; focus (first | with_reducible exact Nat.le_refl _ | (simp; done) | (simp; omega) | (simp at *; omega))) | with_reducible refine ch_trans ?_ (by with_reducible assumption)))
        have hb1 : Below w.heap.size w w1 := (by repeat (first | with_reducible exact Below.refl _ _ | with_reducible assumption | with_reducible refine ch_alloc ?_ _ | with_reducible refine Below.drew ?_ | with_reducible refine below_draws _ ?_ | (with_reducible refine Below.setCell ?_ ?_ _; rotate_left; focus (first | with_reducible exact Nat.le_refl _ | (simp; done) | (simp; omega) | (simp at *; omega))) | with_reducible refine ch_trans ?_ (by with_reducible assumption)))
        clear hg2 hr2 b1
        go_wp2_with (at_builtin; refine app_lot rfl (.tmp 29) (.tmp 30) rfl Tryz.underlying26 infoByte rfl (by decide) (by decide) w.heap.size _ _ rfl HG11.out b2 off2 _ (X.map byX) X.length (by simp) rfl HR2.out (byte_one _) (by have := HKL.out; simp only [List.length_map]; omega) hb1.size ?_; intro v3 w3 hg3 hb3)
        go_round
        case rel => exact ⟨k + 1, by omega, by go_num, hb1.trans hb3, HK', by
          show Got _ _ _ _ _ _
          rw [← HFL.out, List.map_append]; exact hg3⟩
        case measure => simp [intOf]; omega
      | false =>
        have HS : Hid (∀ u : World, Calls Tryz.prog 103 #[.agg #[.int .i64 vs[k].ty, .int .i64 vs[k].n, .string vs[k].s]] u fun e w' => ∃ v', e = .returned (.tuple #[v', .bool false]) ∧ Below u.heap.size u w' ∧ Got w' u.heap.size 5 1 v' (([] : List UInt8).map byX)) := fun u => valBytes_spec _ _ _ u false _ (Or.inr ⟨rfl, hok, rfl⟩)
        obtain ⟨rfl, rfl⟩ : q = false ∧ L = [] := by
          rcases HQ.out with ⟨_, h, _⟩ | ⟨h, _, h'⟩
          · have := h.2 _ (List.getElem_mem hlt)
            rw [hok] at this
            cases this
          · exact ⟨h, h'⟩
        clear hok HQ
        generalize vs[k].ty = ty at d0 HS
        generalize vs[k].n = n at d1 HS
        generalize vs[k].s = x at d2 HS
        go_wp2_with fail
        refine (HS.out _).mono ?_
        rintro e w1 ⟨v', rfl, b1, hg2⟩
        go_wp2
        go_ret2
        exact ⟨_, rfl, (by repeat (first | with_reducible exact Below.refl _ _ | with_reducible assumption | with_reducible refine ch_alloc ?_ _ | with_reducible refine Below.drew ?_ | with_reducible refine below_draws _ ?_ | (with_reducible refine Below.setCell ?_ ?_ _; rotate_left; focus (first | with_reducible exact Nat.le_refl _ | (simp; done) | (simp; omega) | (simp at *; omega))) | with_reducible refine ch_trans ?_ (by with_reducible assumption))), Got.nil _ _ _ _⟩
    · have hlti : (vs.length : Int) ≤ k := by omega
      have HA : Hid (∀ c ∈ vs, okB c.ty c.n c.s = true) := by
        have := HK.out
        rwa [List.take_of_length_le (by omega)] at this
      have HGE : Hid (Got wr w.heap.size 5 1 (.slice a1 n1 c1) ((rowL vs).map byX)) := by
        have := HG1.out
        rwa [List.take_of_length_le (by omega)] at this
      obtain ⟨rfl, rfl⟩ : q = true ∧ L = rowL vs := by
        rcases HQ.out with ⟨h, _, h'⟩ | ⟨_, h, _⟩
        · exact ⟨h, h'⟩
        · exact absurd ⟨by omega, HA.out⟩ h
      go_wp2
      go_ret2
      exact ⟨_, rfl, (by repeat (first | with_reducible exact Below.refl _ _ | with_reducible assumption | with_reducible refine ch_alloc ?_ _ | with_reducible refine Below.drew ?_ | with_reducible refine below_draws _ ?_ | (with_reducible refine Below.setCell ?_ ?_ _; rotate_left; focus (first | with_reducible exact Nat.le_refl _ | (simp; done) | (simp; omega) | (simp at *; omega))) | with_reducible refine ch_trans ?_ (by with_reducible assumption))), HGE.out⟩
end Go.Proofs.YtikccmgpmbnkfaaGreat

namespace Go.Proofs.YtikccmgpmbnkfaaGreat
open Go.ChangeShapes Go.WideShapes Go.ChangeAt Go.RowKit

/-- The sum of some bytes. -/
def sumL (l : List UInt8) : Nat := l.foldl (fun n c => (257 * n + c.toNat + 1) % 16777213) 1
theorem sumL_snoc (l : List UInt8) (c : UInt8) : sumL (l ++ [c]) = (257 * sumL l + c.toNat + 1) % 16777213 := by simp [sumL]
set_option maxRecDepth 100000 in
set_option maxHeartbeats 400000 in
/-- impl.Sum -/
theorem sum_impl (v : Value) (l : List UInt8) (w : World) (hv : BytesV w v l) :
    Calls Tryz.prog 72 #[v] w fun e w' => e = .returned (.int .i64 (sumL l : Int)) ∧ Below w.heap.size w w' := by
  obtain ⟨a, cap, rfl, hl, hm, hc⟩ := hv
  unfold maxLen at hm
  have HC : Hid (RowAt w a 1 (l.map byX)) := hc
  clear hc
  go_enter Tryz.func72, Tryz.ntmps72
  go_wp2
  go_loopw [3, 8] (fun q i wr => ∃ k S : Nat, k ≤ l.length ∧ i = .int .i64 (k : Int) ∧ q = .int .i64 (S : Int) ∧ S < 16777213 ∧ Hid (S = sumL (l.take k)) ∧ Below w.heap.size w wr) (fun _ i _ => l.length - (intOf i).toNat)
  case atStart => exact ⟨0, 1, Nat.zero_le _, rfl, rfl, by omega, rfl, (by repeat (first | with_reducible exact Below.refl _ _ | with_reducible assumption | with_reducible refine ch_alloc ?_ _ | with_reducible refine Below.drew ?_ | with_reducible refine below_draws _ ?_ | (with_reducible refine Below.setCell ?_ ?_ _; rotate_left; focus (first | with_reducible exact Nat.le_refl _ | (simp; done) | (simp; omega) | (simp at *; omega))) | with_reducible refine ch_trans ?_ (by with_reducible assumption)))⟩
  case round =>
    obtain ⟨k, S, hk, rfl, rfl, hS, HS, hb⟩ := hrel
    by_cases hlt : k < l.length
    · have hlti : (k : Int) < l.length := by omega
      obtain ⟨b, off, rfl, c0⟩ := (HC.out.on hb).bytes k hlt
      have hc255 : l[k].toNat < 256 := l[k].toNat_lt
      have HN : Hid ((257 * S + l[k].toNat + 1) % 16777213 = sumL (l.take (k + 1))) := by
        show _ = _
        rw [List.take_succ_eq_append_getElem hlt, sumL_snoc, ← HS.out]
      generalize l[k].toNat = C at c0 hc255 HN
      go_wp2
      go_round
      case rel => exact ⟨k + 1, (257 * S + C + 1) % 16777213, by omega, by go_num, by go_num, Nat.mod_lt _ (by omega), HN, (by repeat (first | with_reducible exact Below.refl _ _ | with_reducible assumption | with_reducible refine ch_alloc ?_ _ | with_reducible refine Below.drew ?_ | with_reducible refine below_draws _ ?_ | (with_reducible refine Below.setCell ?_ ?_ _; rotate_left; focus (first | with_reducible exact Nat.le_refl _ | (simp; done) | (simp; omega) | (simp at *; omega))) | with_reducible refine ch_trans ?_ (by with_reducible assumption)))⟩
      case measure => simp [intOf]; omega
    · have hlti : (l.length : Int) ≤ k := by omega
      have HE : Hid (sumL l = S) := by
        have := HS.out
        rw [List.take_of_length_le (by omega)] at this
        exact this.symm
      go_wp2
      go_ret
      exact ⟨by rw [HE.out]; rfl, (by repeat (first | with_reducible exact Below.refl _ _ | with_reducible assumption | with_reducible refine ch_alloc ?_ _ | with_reducible refine Below.drew ?_ | with_reducible refine below_draws _ ?_ | (with_reducible refine Below.setCell ?_ ?_ _; rotate_left; focus (first | with_reducible exact Nat.le_refl _ | (simp; done) | (simp; omega) | (simp at *; omega))) | with_reducible refine ch_trans ?_ (by with_reducible assumption)))⟩
set_option maxRecDepth 100000 in
set_option maxHeartbeats 400000 in
/-- spec.Sum -/
theorem sum_spec (v : Value) (l : List UInt8) (w : World) (hv : BytesV w v l) :
    Calls Tryz.prog 33 #[v] w fun e w' => e = .returned (.int .i64 (sumL l : Int)) ∧ Below w.heap.size w w' := by
  obtain ⟨a, cap, rfl, hl, hm, hc⟩ := hv
  unfold maxLen at hm
  have HC : Hid (RowAt w a 1 (l.map byX)) := hc
  clear hc
  go_enter Tryz.func33, Tryz.ntmps33
  go_wp2
  go_loopw [3, 8] (fun q i wr => ∃ k S : Nat, k ≤ l.length ∧ i = .int .i64 (k : Int) ∧ q = .int .i64 (S : Int) ∧ S < 16777213 ∧ Hid (S = sumL (l.take k)) ∧ Below w.heap.size w wr) (fun _ i _ => l.length - (intOf i).toNat)
  case atStart => exact ⟨0, 1, Nat.zero_le _, rfl, rfl, by omega, rfl, (by repeat (first | with_reducible exact Below.refl _ _ | with_reducible assumption | with_reducible refine ch_alloc ?_ _ | with_reducible refine Below.drew ?_ | with_reducible refine below_draws _ ?_ | (with_reducible refine Below.setCell ?_ ?_ _; rotate_left; focus (first | with_reducible exact Nat.le_refl _ | (simp; done) | (simp; omega) | (simp at *; omega))) | with_reducible refine ch_trans ?_ (by with_reducible assumption)))⟩
  case round =>
    obtain ⟨k, S, hk, rfl, rfl, hS, HS, hb⟩ := hrel
    by_cases hlt : k < l.length
    · have hlti : (k : Int) < l.length := by omega
      obtain ⟨b, off, rfl, c0⟩ := (HC.out.on hb).bytes k hlt
      have hc255 : l[k].toNat < 256 := l[k].toNat_lt
      have HN : Hid ((257 * S + l[k].toNat + 1) % 16777213 = sumL (l.take (k + 1))) := by
        show _ = _
        rw [List.take_succ_eq_append_getElem hlt, sumL_snoc, ← HS.out]
      generalize l[k].toNat = C at c0 hc255 HN
      go_wp2
      go_round
      case rel => exact ⟨k + 1, (257 * S + C + 1) % 16777213, by omega, by go_num, by go_num, Nat.mod_lt _ (by omega), HN, (by repeat (first | with_reducible exact Below.refl _ _ | with_reducible assumption | with_reducible refine ch_alloc ?_ _ | with_reducible refine Below.drew ?_ | with_reducible refine below_draws _ ?_ | (with_reducible refine Below.setCell ?_ ?_ _; rotate_left; focus (first | with_reducible exact Nat.le_refl _ | (simp; done) | (simp; omega) | (simp at *; omega))) | with_reducible refine ch_trans ?_ (by with_reducible assumption)))⟩
      case measure => simp [intOf]; omega
    · have hlti : (l.length : Int) ≤ k := by omega
      have HE : Hid (sumL l = S) := by
        have := HS.out
        rw [List.take_of_length_le (by omega)] at this
        exact this.symm
      go_wp2
      go_ret
      exact ⟨by rw [HE.out]; rfl, (by repeat (first | with_reducible exact Below.refl _ _ | with_reducible assumption | with_reducible refine ch_alloc ?_ _ | with_reducible refine Below.drew ?_ | with_reducible refine below_draws _ ?_ | (with_reducible refine Below.setCell ?_ ?_ _; rotate_left; focus (first | with_reducible exact Nat.le_refl _ | (simp; done) | (simp; omega) | (simp at *; omega))) | with_reducible refine ch_trans ?_ (by with_reducible assumption)))⟩

/-- The number that some bytes are, behind n. -/
def getF (n : Nat) (l : List UInt8) : Nat := l.foldl (fun n c => n * 256 + c.toNat) n
def getL (l : List UInt8) (a s : Nat) : Nat := getF 0 ((l.drop a).take s)
theorem getF_lt : ∀ (l : List UInt8) (n : Nat), getF n l < (n + 1) * 256 ^ l.length
  | [], n => by simp [getF]
  | c :: r, n => by
    have h := getF_lt r (n * 256 + c.toNat)
    have hc : c.toNat < 256 := c.toNat_lt
    have e : getF n (c :: r) = getF (n * 256 + c.toNat) r := rfl
    rw [e, List.length_cons, Nat.pow_succ]
    refine Nat.lt_of_lt_of_le h ?_
    have : (n * 256 + c.toNat + 1) * 256 ^ r.length ≤ ((n + 1) * 256) * 256 ^ r.length := Nat.mul_le_mul_right _ (by omega)
    refine Nat.le_trans this (Nat.le_of_eq ?_)
    rw [Nat.mul_assoc, Nat.mul_comm 256]
theorem getF_snoc (l : List UInt8) (n : Nat) (c : UInt8) : getF n (l ++ [c]) = getF n l * 256 + c.toNat := by simp [getF]
def okGet (l : List UInt8) (a s : Int) : Prop := 1 ≤ s ∧ s ≤ 6 ∧ 0 ≤ a ∧ a ≤ l.length - s
theorem get_step {l : List UInt8} {a k : Nat} (h : a + k < l.length) : getF 0 ((l.drop a).take (k + 1)) = getF 0 ((l.drop a).take k) * 256 + (l[a + k]).toNat := by
  have h1 : k < (l.drop a).length := by simp; omega
  rw [List.take_succ_eq_append_getElem h1, getF_snoc, List.getElem_drop]
theorem get_lt {l : List UInt8} {a k : Nat} (hk : k ≤ 5) : getF 0 ((l.drop a).take k) < 1099511627776 := by
  have h := getF_lt ((l.drop a).take k) 0
  have h1 : ((l.drop a).take k).length ≤ k := by simp; omega
  have h2 : 256 ^ ((l.drop a).take k).length ≤ 256 ^ 5 := Nat.pow_le_pow_right (by omega) (by omega)
  have h3 : (256 : Nat) ^ 5 = 1099511627776 := by decide
  omega
set_option maxRecDepth 100000 in
set_option maxHeartbeats 1000000 in
/-- spec.GetNum -/
theorem getNum_spec (v : Value) (l : List UInt8) (x s : Int) (w : World) (hv : BytesV w v l) (hx63 : -9223372036854775808 ≤ x ∧ x ≤ 9223372036854775807) (hs63 : -9223372036854775808 ≤ s ∧ s ≤ 9223372036854775807) (q : Bool) (N : Nat) (hq : (q = true ∧ okGet l x s ∧ N = getL l x.toNat s.toNat) ∨ (q = false ∧ ¬ okGet l x s ∧ N = 0)) :
    Calls Tryz.prog 77 #[v, .int .i64 x, .int .i64 s] w fun e w' => e = .returned (.tuple #[.int .i64 (N : Int), .bool q]) ∧ Below w.heap.size w w' := by
  obtain ⟨a, cap, rfl, hl, hm, hc⟩ := hv
  unfold maxLen at hm
  have HC : Hid (RowAt w a 1 (l.map byX)) := hc
  clear hc
  by_cases hok : okGet l x s
  · obtain ⟨rfl, rfl⟩ : q = true ∧ N = getL l x.toNat s.toNat := by
      rcases hq with ⟨h, _, h'⟩ | ⟨_, h, _⟩
      · exact ⟨h, h'⟩
      · exact absurd hok h
    clear hq
    obtain ⟨h1, h2, h3, h4⟩ := hok
    obtain ⟨z, rfl⟩ : ∃ z : Nat, s = (z : Int) := ⟨s.toNat, by omega⟩
    obtain ⟨y, rfl⟩ : ∃ y : Nat, x = (y : Int) := ⟨x.toNat, by omega⟩
    have hyz : y + z ≤ l.length := by omega
    go_enter Tryz.func77, Tryz.ntmps77
    go_wp2
    go_loopw [8, 9] (fun n i wr => ∃ k S : Nat, k ≤ z ∧ i = .int .i64 (k : Int) ∧ n = .int .i64 (S : Int) ∧ Hid (S = getF 0 ((l.drop y).take k)) ∧ Below w.heap.size w wr) (fun _ i _ => z - (intOf i).toNat)
    case atStart => exact ⟨0, 0, Nat.zero_le _, rfl, rfl, rfl, (by repeat (first | with_reducible exact Below.refl _ _ | with_reducible assumption | with_reducible refine ch_alloc ?_ _ | with_reducible refine Below.drew ?_ | with_reducible refine below_draws _ ?_ | (with_reducible refine Below.setCell ?_ ?_ _; rotate_left; focus (first | with_reducible exact Nat.le_refl _ | (simp; done) | (simp; omega) | (simp at *; omega))) | with_reducible refine ch_trans ?_ (by with_reducible assumption)))⟩
    case round =>
      obtain ⟨k, S, hk, rfl, rfl, HS, hb⟩ := hrel
      by_cases hlt : k < z
      · have hlti : (k : Int) < z := by omega
        have hyk : y + k < l.length := by omega
        obtain ⟨b, off, rfl, c0⟩ := (HC.out.on hb).bytes (y + k) hyk
        have hSlt : S < 1099511627776 := by rw [HS.out]; exact get_lt (by omega)
        have hc255 : l[y + k].toNat < 256 := l[y + k].toNat_lt
        have HN : Hid (S * 256 + l[y + k].toNat = getF 0 ((l.drop y).take (k + 1))) := by
          show _ = _
          rw [get_step hyk, ← HS.out]
        generalize l[y + k].toNat = C at c0 hc255 HN
        go_wp2
        go_round
        case rel => exact ⟨k + 1, S * 256 + C, by omega, by go_num, by go_num, HN, (by repeat (first | with_reducible exact Below.refl _ _ | with_reducible assumption | with_reducible refine ch_alloc ?_ _ | with_reducible refine Below.drew ?_ | with_reducible refine below_draws _ ?_ | (with_reducible refine Below.setCell ?_ ?_ _; rotate_left; focus (first | with_reducible exact Nat.le_refl _ | (simp; done) | (simp; omega) | (simp at *; omega))) | with_reducible refine ch_trans ?_ (by with_reducible assumption)))⟩
        case measure => simp [intOf]; omega
      · have hlti : (z : Int) ≤ k := by omega
        obtain rfl : k = z := by omega
        have HE : Hid (((getL l ((y : Int)).toNat ((k : Int)).toNat : Nat) : Int) = (S : Int)) := by show _ = _; rw [HS.out]; rfl
        go_wp2
        go_ret2
        exact ⟨by rw [HE.out]; rfl, (by repeat (first | with_reducible exact Below.refl _ _ | with_reducible assumption | with_reducible refine ch_alloc ?_ _ | with_reducible refine Below.drew ?_ | with_reducible refine below_draws _ ?_ | (with_reducible refine Below.setCell ?_ ?_ _; rotate_left; focus (first | with_reducible exact Nat.le_refl _ | (simp; done) | (simp; omega) | (simp at *; omega))) | with_reducible refine ch_trans ?_ (by with_reducible assumption)))⟩
  · obtain ⟨rfl, rfl⟩ : q = false ∧ N = 0 := by
      rcases hq with ⟨_, h, _⟩ | ⟨h, _, h'⟩
      · exact absurd h hok
      · exact ⟨h, h'⟩
    clear hq
    by_cases h1 : s < 1
    · go_enter Tryz.func77, Tryz.ntmps77
      go_wp2
      go_ret2
      exact ⟨rfl, (by repeat (first | with_reducible exact Below.refl _ _ | with_reducible assumption | with_reducible refine ch_alloc ?_ _ | with_reducible refine Below.drew ?_ | with_reducible refine below_draws _ ?_ | (with_reducible refine Below.setCell ?_ ?_ _; rotate_left; focus (first | with_reducible exact Nat.le_refl _ | (simp; done) | (simp; omega) | (simp at *; omega))) | with_reducible refine ch_trans ?_ (by with_reducible assumption)))⟩
    by_cases h2 : 6 < s
    · go_enter Tryz.func77, Tryz.ntmps77
      go_wp2
      go_ret2
      exact ⟨rfl, (by repeat (first | with_reducible exact Below.refl _ _ | with_reducible assumption | with_reducible refine ch_alloc ?_ _ | with_reducible refine Below.drew ?_ | with_reducible refine below_draws _ ?_ | (with_reducible refine Below.setCell ?_ ?_ _; rotate_left; focus (first | with_reducible exact Nat.le_refl _ | (simp; done) | (simp; omega) | (simp at *; omega))) | with_reducible refine ch_trans ?_ (by with_reducible assumption)))⟩
    by_cases h3 : x < 0
    · go_enter Tryz.func77, Tryz.ntmps77
      go_wp2
      go_ret2
      exact ⟨rfl, (by repeat (first | with_reducible exact Below.refl _ _ | with_reducible assumption | with_reducible refine ch_alloc ?_ _ | with_reducible refine Below.drew ?_ | with_reducible refine below_draws _ ?_ | (with_reducible refine Below.setCell ?_ ?_ _; rotate_left; focus (first | with_reducible exact Nat.le_refl _ | (simp; done) | (simp; omega) | (simp at *; omega))) | with_reducible refine ch_trans ?_ (by with_reducible assumption)))⟩
    have h4 : (l.length : Int) - s < x := by
      unfold okGet at hok
      omega
    clear hok
    go_enter Tryz.func77, Tryz.ntmps77
    go_wp2
    go_ret2
    exact ⟨rfl, (by repeat (first | with_reducible exact Below.refl _ _ | with_reducible assumption | with_reducible refine ch_alloc ?_ _ | with_reducible refine Below.drew ?_ | with_reducible refine below_draws _ ?_ | (with_reducible refine Below.setCell ?_ ?_ _; rotate_left; focus (first | with_reducible exact Nat.le_refl _ | (simp; done) | (simp; omega) | (simp at *; omega))) | with_reducible refine ch_trans ?_ (by with_reducible assumption)))⟩
set_option maxRecDepth 100000 in
set_option maxHeartbeats 1000000 in
/-- impl.GetNum -/
theorem getNum_impl (v : Value) (l : List UInt8) (x s : Int) (w : World) (hv : BytesV w v l) (q : Bool) (N : Nat) (hq : (q = true ∧ okGet l x s ∧ N = getL l x.toNat s.toNat) ∨ (q = false ∧ ¬ okGet l x s ∧ N = 0)) :
    Calls Tryz.prog 111 #[v, .int .i64 x, .int .i64 s] w fun e w' => e = .returned (.tuple #[.int .i64 (N : Int), .bool q]) ∧ Below w.heap.size w w' := by
  obtain ⟨a, cap, rfl, hl, hm, hc⟩ := hv
  unfold maxLen at hm
  have HC : Hid (RowAt w a 1 (l.map byX)) := hc
  clear hc
  by_cases hs : 1 ≤ s ∧ s ≤ 6
  · have HS : Hid (∀ u : World, Calls Tryz.prog 136 #[.int .i64 s] u fun e w' => e = .returned (.bool true) ∧ Below u.heap.size u w') := fun u => by
      have := sizeOk_any s u
      rwa [show (decide (1 ≤ s) && decide (s ≤ 6)) = true by simp; omega] at this
    by_cases hok : okGet l x s
    · obtain ⟨rfl, rfl⟩ : q = true ∧ N = getL l x.toNat s.toNat := by
        rcases hq with ⟨h, _, h'⟩ | ⟨_, h, _⟩
        · exact ⟨h, h'⟩
        · exact absurd hok h
      clear hq
      obtain ⟨h1, h2, h3, h4⟩ := hok
      obtain ⟨z, rfl⟩ : ∃ z : Nat, s = (z : Int) := ⟨s.toNat, by omega⟩
      obtain ⟨y, rfl⟩ : ∃ y : Nat, x = (y : Int) := ⟨x.toNat, by omega⟩
      have hyz : y + z ≤ l.length := by omega
      obtain ⟨b, off, rfl, _⟩ := HC.out.bytes 0 (by omega)
      go_enter Tryz.func111, Tryz.ntmps111
      go_wp2_with (go_at_call 136; refine (HS.out _).mono ?_; rintro e w1 ⟨rfl, b1⟩)
      go_loopw [8, 33] (fun n i wr => ∃ k S : Nat, k ≤ z ∧ i = .int .i64 (k : Int) ∧ n = .int .i64 (S : Int) ∧ Hid (S = getF 0 ((l.drop y).take k)) ∧ Below w.heap.size w wr) (fun _ i _ => z - (intOf i).toNat)
      case atStart => exact ⟨0, 0, Nat.zero_le _, rfl, rfl, rfl, (by repeat (first | with_reducible exact Below.refl _ _ | with_reducible assumption | with_reducible refine ch_alloc ?_ _ | with_reducible refine Below.drew ?_ | with_reducible refine below_draws _ ?_ | (with_reducible refine Below.setCell ?_ ?_ _; rotate_left; focus (first | with_reducible exact Nat.le_refl _ | (simp; done) | (simp; omega) | (simp at *; omega))) | with_reducible refine ch_trans ?_ (by with_reducible assumption)))⟩
      case round =>
        obtain ⟨k, S, hk, rfl, rfl, HV, hb⟩ := hrel
        by_cases hlt : k < z
        · have hlti : (k : Int) < z := by omega
          have hyk : y + k < l.length := by omega
          obtain ⟨b', off', hbo, c0⟩ := (HC.out.on hb).bytes (y + k) hyk
          cases hbo
          have hSlt : S < 1099511627776 := by rw [HV.out]; exact get_lt (by omega)
          have hc255 : l[y + k].toNat < 256 := l[y + k].toNat_lt
          have HN : Hid (S * 256 + l[y + k].toNat = getF 0 ((l.drop y).take (k + 1))) := by
            show _ = _
            rw [get_step hyk, ← HV.out]
          generalize l[y + k].toNat = C at c0 hc255 HN
          rw [← Nat.add_assoc] at c0
          go_wp2
          go_round
          case rel => exact ⟨k + 1, S * 256 + C, by omega, by go_num, by go_num, HN, (by repeat (first | with_reducible exact Below.refl _ _ | with_reducible assumption | with_reducible refine ch_alloc ?_ _ | with_reducible refine Below.drew ?_ | with_reducible refine below_draws _ ?_ | (with_reducible refine Below.setCell ?_ ?_ _; rotate_left; focus (first | with_reducible exact Nat.le_refl _ | (simp; done) | (simp; omega) | (simp at *; omega))) | with_reducible refine ch_trans ?_ (by with_reducible assumption)))⟩
          case measure => simp [intOf]; omega
        · have hlti : (z : Int) ≤ k := by omega
          obtain rfl : k = z := by omega
          have HE : Hid (((getL l ((y : Int)).toNat ((k : Int)).toNat : Nat) : Int) = (S : Int)) := by show _ = _; rw [HV.out]; rfl
          go_wp2
          go_ret2
          exact ⟨by rw [HE.out]; rfl, (by repeat (first | with_reducible exact Below.refl _ _ | with_reducible assumption | with_reducible refine ch_alloc ?_ _ | with_reducible refine Below.drew ?_ | with_reducible refine below_draws _ ?_ | (with_reducible refine Below.setCell ?_ ?_ _; rotate_left; focus (first | with_reducible exact Nat.le_refl _ | (simp; done) | (simp; omega) | (simp at *; omega))) | with_reducible refine ch_trans ?_ (by with_reducible assumption)))⟩
    · obtain ⟨rfl, rfl⟩ : q = false ∧ N = 0 := by
        rcases hq with ⟨_, h, _⟩ | ⟨h, _, h'⟩
        · exact absurd h hok
        · exact ⟨h, h'⟩
      clear hq
      by_cases h3 : x < 0
      · go_enter Tryz.func111, Tryz.ntmps111
        go_wp2_with (go_at_call 136; refine (HS.out _).mono ?_; rintro e w1 ⟨rfl, b1⟩)
        go_ret2
        exact ⟨rfl, (by repeat (first | with_reducible exact Below.refl _ _ | with_reducible assumption | with_reducible refine ch_alloc ?_ _ | with_reducible refine Below.drew ?_ | with_reducible refine below_draws _ ?_ | (with_reducible refine Below.setCell ?_ ?_ _; rotate_left; focus (first | with_reducible exact Nat.le_refl _ | (simp; done) | (simp; omega) | (simp at *; omega))) | with_reducible refine ch_trans ?_ (by with_reducible assumption)))⟩
      have h4 : (l.length : Int) - s < x := by
        unfold okGet at hok
        omega
      clear hok
      go_enter Tryz.func111, Tryz.ntmps111
      go_wp2_with (go_at_call 136; refine (HS.out _).mono ?_; rintro e w1 ⟨rfl, b1⟩)
      go_ret2
      exact ⟨rfl, (by repeat (first | with_reducible exact Below.refl _ _ | with_reducible assumption | with_reducible refine ch_alloc ?_ _ | with_reducible refine Below.drew ?_ | with_reducible refine below_draws _ ?_ | (with_reducible refine Below.setCell ?_ ?_ _; rotate_left; focus (first | with_reducible exact Nat.le_refl _ | (simp; done) | (simp; omega) | (simp at *; omega))) | with_reducible refine ch_trans ?_ (by with_reducible assumption)))⟩
  · have HS : Hid (∀ u : World, Calls Tryz.prog 136 #[.int .i64 s] u fun e w' => e = .returned (.bool false) ∧ Below u.heap.size u w') := fun u => by
      have := sizeOk_any s u
      rwa [show (decide (1 ≤ s) && decide (s ≤ 6)) = false by simp; omega] at this
    obtain ⟨rfl, rfl⟩ : q = false ∧ N = 0 := by
      rcases hq with ⟨_, h, _⟩ | ⟨h, _, h'⟩
      · exact absurd ⟨h.1, h.2.1⟩ hs
      · exact ⟨h, h'⟩
    clear hq
    go_enter Tryz.func111, Tryz.ntmps111
    go_wp2_with (go_at_call 136; refine (HS.out _).mono ?_; rintro e w1 ⟨rfl, b1⟩)
    go_ret2
    exact ⟨rfl, (by repeat (first | with_reducible exact Below.refl _ _ | with_reducible assumption | with_reducible refine ch_alloc ?_ _ | with_reducible refine Below.drew ?_ | with_reducible refine below_draws _ ?_ | (with_reducible refine Below.setCell ?_ ?_ _; rotate_left; focus (first | with_reducible exact Nat.le_refl _ | (simp; done) | (simp; omega) | (simp at *; omega))) | with_reducible refine ch_trans ?_ (by with_reducible assumption)))⟩
end Go.Proofs.YtikccmgpmbnkfaaGreat

namespace Go.Proofs.YtikccmgpmbnkfaaGreat
open Go.ChangeShapes Go.WideShapes Go.ChangeAt Go.RowKit

/-- A number of some bytes off the front; 0 where they are too few. -/
def rdN (s : Nat) (l : List UInt8) : Nat := if s ≤ l.length then getF 0 (l.take s) else 0
/-- A text off the front, and what is left. -/
def rdT (l : List UInt8) : ByteArray × List UInt8 := (⟨((l.drop 1).take (rdN 1 l)).toArray⟩, (l.drop 1).drop (rdN 1 l))
/-- A value off the front, and what is left. -/
def rdV (l : List UInt8) : Vc × List UInt8 :=
  if rdN 1 l = 1 then (⟨1, (rdN 1 (l.drop 1) : Int), ⟨#[]⟩⟩, (l.drop 1).drop 1)
  else if rdN 1 l = 2 then (⟨2, if rdN 1 (l.drop 1) = 1 then -(rdN 6 ((l.drop 1).drop 1) : Int) else (rdN 6 ((l.drop 1).drop 1) : Int), ⟨#[]⟩⟩, ((l.drop 1).drop 1).drop 6)
  else if rdN 1 l = 3 then (⟨3, 0, (rdT (l.drop 1)).1⟩, (rdT (l.drop 1)).2)
  else (⟨(rdN 1 l : Int), 0, ⟨#[]⟩⟩, l.drop 1)
/-- Some values off the front, and what is left. -/
def rdVs : Nat → List UInt8 → List Vc × List UInt8
  | 0, l => ([], l)
  | n + 1, l => ((rdV l).1 :: (rdVs n (rdV l).2).1, (rdVs n (rdV l).2).2)
theorem rdN_one (c : UInt8) (r : List UInt8) : rdN 1 (c :: r) = c.toNat := by simp [rdN, getF]
theorem rdN_lt (s : Nat) (l : List UInt8) (hs : s ≤ 6) : rdN s l < 281474976710656 := by
  unfold rdN
  split
  · have h := getF_lt (l.take s) 0
    have h1 : (l.take s).length ≤ s := by simp; omega
    have h2 : 256 ^ (l.take s).length ≤ 256 ^ 6 := Nat.pow_le_pow_right (by omega) (by omega)
    have h3 : (256 : Nat) ^ 6 = 281474976710656 := by decide
    omega
  · omega
theorem rdN_byte (l : List UInt8) : rdN 1 l < 256 := by
  cases l with
  | nil => simp [rdN]
  | cons c r => rw [rdN_one]; exact c.toNat_lt
theorem getF_numR (n : Nat) : ∀ (s a : Nat), getF a (numL n s) = a * 256 ^ s + n % 256 ^ s
  | 0, a => by simp [numL, getF, Nat.mod_one]
  | s + 1, a => by
    have ih := getF_numR n s (a * 256 + (UInt8.ofNat (n / 256 ^ s)).toNat)
    show getF (a * 256 + _) (numL n s) = _
    rw [ih, dig_nat, Nat.mod_pow_succ, Nat.pow_succ, Nat.add_mul, Nat.mul_assoc a 256, Nat.mul_comm 256 (256 ^ s), Nat.mul_comm (n / 256 ^ s % 256), Nat.add_assoc, Nat.add_comm (256 ^ s * _)]
theorem rdN_six (n : Nat) (r : List UInt8) (h : n < 281474976710656) : rdN 6 (numL n 6 ++ r) = n ∧ (numL n 6 ++ r).drop 6 = r := by
  have hl := numL_length n 6
  refine ⟨?_, by rw [List.drop_append_of_le_length (by omega), List.drop_of_length_le (by omega), List.nil_append]⟩
  unfold rdN
  rw [if_pos (by rw [List.length_append]; omega), List.take_append_of_le_length (by omega), List.take_of_length_le (by omega), getF_numR, Nat.zero_mul, Nat.zero_add, Nat.mod_eq_of_lt]
  have h3 : (256 : Nat) ^ 6 = 281474976710656 := by decide
  omega
theorem rdT_text (x : ByteArray) (r : List UInt8) (h : x.size ≤ 30) : rdT (textL x ++ r) = (x, r) := by
  have h1 : rdN 1 (textL x ++ r) = x.data.toList.length := by
    rw [textL, List.cons_append, rdN_one, UInt8.toNat_ofNat', Nat.mod_eq_of_lt (by omega)]; simp
  unfold rdT
  rw [h1]
  simp [textL]
theorem noneS {x : ByteArray} (h : x.toList.isEmpty = true) : x = ⟨#[]⟩ := by
  apply WideShapes.bytes_inj
  have := size_empty h
  have h2 : x.data.toList.length = 0 := by simpa using this
  simpa using List.length_eq_zero_iff.1 h2
/-- A right value is read as it was written. -/
theorem rdV_val (c : Vc) (r : List UInt8) (h : okB c.ty c.n c.s = true) : rdV (valL c ++ r) = (c, r) := by
  obtain ⟨ty, n, x⟩ := c
  simp only at h
  have h0 := h
  unfold okB at h0
  rcases okB_ty (c := ⟨ty, n, x⟩) h with h1 | ⟨h1, h2, h3⟩ | ⟨h1, h2, h3⟩ | ⟨h1, h2⟩
  · simp only at h1
    subst h1
    simp at h0
    obtain ⟨rfl, h0⟩ := h0
    obtain rfl := noneS (x := x) (by simpa using h0)
    simp [rdV, valL, rdN_one]
  · simp only at h1 h2 h3
    subst h1
    simp at h0
    obtain ⟨_, h0⟩ := h0
    obtain rfl := noneS (x := x) (by simpa using h0)
    obtain ⟨N, rfl⟩ : ∃ N : Nat, n = (N : Int) := ⟨n.toNat, by omega⟩
    have e : (UInt8.ofNat N).toNat = N := by rw [UInt8.toNat_ofNat', Nat.mod_eq_of_lt (by omega)]
    simp [rdV, valL, rdN_one, e]
  · simp only at h1 h2 h3
    subst h1
    simp at h0
    obtain ⟨_, h0⟩ := h0
    obtain rfl := noneS (x := x) (by simpa using h0)
    have e := rdN_six n.natAbs r (by omega)
    by_cases hn : n < 0
    · have hf : flagN (decide (n < 0)) = 1 := by simp [flagN, hn]
      have : valL ⟨2, n, ⟨#[]⟩⟩ ++ r = 2 :: 1 :: (numL n.natAbs 6 ++ r) := by simp [valL, hf]
      rw [this]
      simp only [rdV, rdN_one, List.drop_succ_cons, List.drop_zero]
      rw [e.2, e.1]
      simp
      omega
    · have hf : flagN (decide (n < 0)) = 0 := by simp [flagN, hn]
      have : valL ⟨2, n, ⟨#[]⟩⟩ ++ r = 2 :: 0 :: (numL n.natAbs 6 ++ r) := by simp [valL, hf]
      rw [this]
      simp only [rdV, rdN_one, List.drop_succ_cons, List.drop_zero]
      rw [e.2, e.1]
      simp
      omega
  · simp only at h1 h2
    subst h1
    simp at h0
    obtain ⟨rfl, _⟩ := h0
    have e := rdT_text x r h2
    have : valL ⟨3, 0, x⟩ ++ r = 3 :: (textL x ++ r) := by simp [valL]
    rw [this]
    simp only [rdV, rdN_one, List.drop_succ_cons, List.drop_zero]
    rw [e]
    simp
theorem rdVs_row : ∀ (vs : List Vc) (r : List UInt8), (∀ c ∈ vs, okB c.ty c.n c.s = true) → rdVs vs.length (vs.flatMap valL ++ r) = (vs, r)
  | [], r, _ => rfl
  | c :: vs, r, h => by
    have e : (c :: vs).flatMap valL ++ r = valL c ++ (vs.flatMap valL ++ r) := by rw [List.flatMap_cons, List.append_assoc]
    have ih := rdVs_row vs r fun x hx => h x (by simp [hx])
    show ((rdV _).1 :: _, _) = _
    rw [e, rdV_val c _ (h c (by simp))]
    simp only
    rw [ih]
/-- What is read of a right row's bytes is the row. -/
theorem rdVs_rowL (vs : List Vc) (h : okRow vs) : rdVs (rdN 1 (rowL vs)) ((rowL vs).drop 1) = (vs, []) := by
  have h1 : rdN 1 (rowL vs) = vs.length := by
    rw [rowL, rdN_one, UInt8.toNat_ofNat', Nat.mod_eq_of_lt (by have := h.1; omega)]
  have := rdVs_row vs [] h.2
  rw [List.append_nil] at this
  rw [h1]
  exact this
end Go.Proofs.YtikccmgpmbnkfaaGreat
