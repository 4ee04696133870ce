/- The key of a row: the given l03Key, the landed keyOf. Copies by append of a whole list. -/
import Derived.Test.YtbjnonondnemhabPc
import Derived.Test.YtbjnonondnemhabVs
import Derived.Test.YtbjnonondnemhabGr
import Derived.Deep.RegionWith
import Derived.Test.YtbjnonondnemhabMarkG
namespace Go.Proofs.Ytbjnonondnemhab
open Go.ChangeShapes Go.WideShapes Go.ChangeAt Go.RowKit

abbrev Vc.zero : Vc := ⟨0, 0, ByteArray.empty⟩
/-- The values at some places. -/
def valsAt (is : List Int) (vs : List Vc) : List Vc := is.map fun i => vs.getD i.toNat Vc.zero
/-- The key of a row. -/
def keyVals (t : Tc) (vs : List Vc) : List Vc := valsAt t.places vs
theorem valsAt_take {is : List Int} {vs : List Vc} {k i : Nat} (hk : k < is.length) (he : is[k] = (i : Int)) (hi : i < vs.length) : ((valsAt is vs).take (k + 1)).map Vc.cells = ((valsAt is vs).take k).map Vc.cells ++ [vs[i].cells] := by
  have hl : k < (valsAt is vs).length := by simpa [valsAt] using hk
  rw [List.take_succ_eq_append_getElem hl, List.map_append]
  simp [valsAt, he, hi]
theorem Got.vals {w : World} {B : Nat} {T : TypeId} {v : Value} {vs : List Vc} (h : Got w B T 3 v (vs.map Vc.cells)) : ValsV w v vs := by
  obtain ⟨a, cap, e, h1, h2, h3, _⟩ := h.row
  exact ⟨a, cap, by simpa using e, by simpa using h1, h2, h3⟩
theorem infoVal : (Try.prog.info? 84).map (fun i => (i.zero, i.size, i.bytes)) = some (some (.agg #[.int .i64 0, .int .i64 0, .string ByteArray.empty]), 3, 32) := by kernel_rfl
theorem val_one (c : Vc) : ∀ u ∈ c.cells.toList, u.oneCell' = true := by
  intro u hu
  simp at hu
  rcases hu with rfl | rfl | rfl <;> rfl
/-- Places within a row. -/
def within' (is : List Int) (n : Nat) : Prop := ∀ k (h : k < is.length), ∃ i : Nat, i < n ∧ is[k] = (i : Int)
theorem right_within {t : Tc} (h : t.right) : within' t.places t.cols.length := fun k hk => by
  obtain ⟨i, hi, e, _⟩ := right_key h k (by simpa [Tc.places] using hk)
  exact ⟨i, hi, by simpa [Tc.places] using e⟩

set_option maxRecDepth 100000 in
set_option maxHeartbeats 2000000 in
/-- spec.l03Key -/
theorem l03Key_any (x : Array Value) (t : Tc) (v : Value) (vs : List Vc) (w : World) (hx : TabV w x t) (hv : ValsV w v vs) (hr : t.right) (hn : vs.length = t.cols.length) :
    Calls Try.prog 118 #[.agg x, .agg #[v]] w fun e w' => ∃ kv, e = .returned kv ∧ Below w.heap.size w w' ∧ Got w' w.heap.size 84 3 kv ((keyVals t vs).map Vc.cells) := by
  obtain ⟨a, p, o, q, rfl, hx, hc, hk⟩ := hx.lit
  obtain ⟨a', p', rfl, _, hm', hv⟩ := hv.lit
  unfold maxLen at hm'
  have hcap : t.keys.length ≤ 8 ∧ t.cols.length ≤ 8 := by have := right_keys hr; have := hr.2.2.1; omega
  obtain ⟨hl1, hl2⟩ := hcap
  have HCC : Hid (ColsV w (.slice a t.cols.length p) t.cols) := hc
  have HK : Hid (RowAt w o 1 (t.keys.map strX)) := by
    obtain ⟨_, _, e, _, _, h⟩ := hk
    cases e
    exact h
  have HV : Hid (RowAt w a' 3 (vs.map Vc.cells)) := hv.row
  have HF : Hid (t.right ∧ vs.length = t.cols.length) := ⟨hr, hn⟩
  have hvl : vs.length ≤ 8 := by omega
  have HL := Loc.new w #[.string t.name, .slice a t.cols.length p, .slice o t.keys.length q] 79
  have HM := Loc.new (w.alloc (.cells #[.string t.name, .slice a t.cols.length p, .slice o t.keys.length q] 79)) #[.slice a' vs.length p'] 62
  rw [show (w.alloc (.cells #[.string t.name, .slice a t.cols.length p, .slice o t.keys.length q] 79)).heap.size = w.heap.size + 1 from by simp] at HM
  have HL2 := HL.on1 (.cells #[.slice a' vs.length p'] 62)
  clear hx hc hk hv hr hn HL
  go_enter Try.func118, Try.ntmps118
  go_wp2
  have hb0 : Below w.heap.size w (((w.alloc (.cells #[.string t.name, .slice a t.cols.length p, .slice o t.keys.length q] 79)).alloc (.cells #[.slice a' vs.length p'] 62)).alloc (.cells #[] 84)) := (by repeat (first | with_reducible exact Below.refl _ _ | with_reducible assumption | with_reducible refine ch_alloc ?_ _ | with_reducible refine Below.drew ?_ | with_reducible refine below_draws _ ?_ | (with_reducible refine Below.setCell ?_ ?_ _; rotate_left; focus (first | with_reducible exact Nat.le_refl _ | (simp; done) | (simp; omega) | (simp at *; omega))) | with_reducible refine ch_trans ?_ (by with_reducible assumption)))
  have HM3 := HM.on1 (.cells #[] 84)
  have HL3 := HL2.on1 (.cells #[] 84)
  have HG0 : Hid (Got (((w.alloc (.cells #[.string t.name, .slice a t.cols.length p, .slice o t.keys.length q] 79)).alloc (.cells #[.slice a' vs.length p'] 62)).alloc (.cells #[] 84)) (w.heap.size + 1 + 1) 84 3 (.slice (some ⟨w.heap.size + 1 + 1, 0, none⟩) 0 0) (((keyVals t vs).take 0).map Vc.cells)) := ⟨fun x h => by simp at h, by simp, Or.inr ⟨_, 0, #[], rfl, Nat.le_refl _, Own.at ((w.alloc (.cells #[.string t.name, .slice a t.cols.length p, .slice o t.keys.length q] 79)).alloc (.cells #[.slice a' vs.length p'] 62)) _ _ (by simp), by simp, by simp, by simp, by simp⟩⟩
  have hsz : w.heap.size + 1 + 1 ≤ (((w.alloc (.cells #[.string t.name, .slice a t.cols.length p, .slice o t.keys.length q] 79)).alloc (.cells #[.slice a' vs.length p'] 62)).alloc (.cells #[] 84)).heap.size := by simp
  clear HM HL2
  generalize (((w.alloc (.cells #[.string t.name, .slice a t.cols.length p, .slice o t.keys.length q] 79)).alloc (.cells #[.slice a' vs.length p'] 62)).alloc (.cells #[] 84)) = w1 at HL3 HM3 hb0 HG0 hsz ⊢
  go_loopw [5, 12] (fun v i wr => ∃ k : Nat, k ≤ t.keys.length ∧ i = .int .i64 k ∧ Below (w.heap.size + 1 + 1) w1 wr ∧ Hid (Got wr (w.heap.size + 1 + 1) 84 3 v (((keyVals t vs).take k).map Vc.cells))) (fun _ i _ => t.keys.length - (intOf i).toNat)
  case atStart => exact ⟨0, Nat.zero_le _, rfl, Below.refl _ _, HG0⟩
  case round =>
    clear HG0
    obtain ⟨k, hk, rfl, hb, HG⟩ := hrel
    obtain ⟨ag, ng, cg, rfl, hg⟩ := HG.out.lit2
    have HG' : Hid (Got wr (w.heap.size + 1 + 1) 84 3 (.slice ag ng cg) (((keyVals t vs).take k).map Vc.cells)) := hg
    have hbw : Below w.heap.size w wr := hb0.trans (hb.mono (by omega))
    have HL4 : Loc wr w.heap.size #[.string t.name, .slice a t.cols.length p, .slice o t.keys.length q] := fun j hj => (hb.cell (p := ⟨w.heap.size, j, none⟩) (by simp; omega)).trans (HL3 j hj)
    have HM4 : Loc wr (w.heap.size + 1) #[.slice a' vs.length p'] := fun j hj => (hb.cell (p := ⟨w.heap.size + 1, j, none⟩) (by simp)).trans (HM3 j hj)
    clear HG hg
    by_cases hlt : k < t.keys.length
    · have hlti : (k : Int) < t.keys.length := by omega
      obtain ⟨b, off, rfl, d0⟩ := (HK.out.on hbw).strs k hlt
      obtain ⟨i, hi, hci⟩ : ∃ i, ∃ hi : i < t.cols.length, colAt t.cols t.keys[k] = (i : Int) := by
        obtain ⟨i, hi, h, _⟩ := right_key HF.out.1 k hlt
        exact ⟨i, hi, h⟩
      have hiv : i < vs.length := by have := HF.out.2; omega
      have hii : (i : Int) < vs.length := by omega
      obtain ⟨b', off', rfl, e0, e1, e2⟩ := (HV.out.on hbw).vals i hiv
      have HPL : Hid _ := valsAt_take (is := t.places) (vs := vs) (k := k) (by simpa [Tc.places] using hlt) (by simpa [Tc.places] using hci) hiv
      have HCA : Hid (∀ u : World, ColsV u (.slice a t.cols.length p) t.cols → Calls Try.prog 155 #[.agg #[.string t.name, .slice a t.cols.length p, .slice (some ⟨b, off, none⟩) t.keys.length q], .string t.keys[k]] u fun e w' => e = .returned (.int .i64 i) ∧ Below u.heap.size u w') := fun u hu => by
        have := colAt_spec t.name (.slice a t.cols.length p) (.slice (some ⟨b, off, none⟩) t.keys.length q) t.cols t.keys[k] u hu
        rw [hci] at this
        exact this
      obtain ⟨l0, l1, l2⟩ := HL4.three
      have m0 := HM4.one
      have hB : w.heap.size + 1 + 1 ≤ wr.heap.size := by have := hb.size; omega
      clear hci
      go_wp2_with fail
      go_region_law (first
        | (go_simp; go_at_call 155; refine (HCA.out _ (HCC.out.on (by repeat (first | with_reducible exact Below.refl _ _ | with_reducible assumption | with_reducible refine ch_alloc ?_ _ | with_reducible refine Below.drew ?_ | with_reducible refine below_draws _ ?_ | (with_reducible refine Below.setCell ?_ ?_ _; rotate_left; focus (first | with_reducible exact Nat.le_refl _ | (simp; done) | (simp; omega) | (simp at *; omega))) | with_reducible refine ch_trans ?_ (by with_reducible assumption))))).mono ?_; rintro e w2 ⟨rfl, b2⟩; have m2 := cell_on m0 (show Below wr.heap.size wr w2 from (by repeat (first | with_reducible exact Below.refl _ _ | with_reducible assumption | with_reducible refine ch_alloc ?_ _ | with_reducible refine Below.drew ?_ | with_reducible refine below_draws _ ?_ | (with_reducible refine Below.setCell ?_ ?_ _; rotate_left; focus (first | with_reducible exact Nat.le_refl _ | (simp; done) | (simp; omega) | (simp at *; omega))) | with_reducible refine ch_trans ?_ (by with_reducible assumption)))); have e3 := cell_on e0 (show Below wr.heap.size wr w2 from (by repeat (first | with_reducible exact Below.refl _ _ | with_reducible assumption | with_reducible refine ch_alloc ?_ _ | with_reducible refine Below.drew ?_ | with_reducible refine below_draws _ ?_ | (with_reducible refine Below.setCell ?_ ?_ _; rotate_left; focus (first | with_reducible exact Nat.le_refl _ | (simp; done) | (simp; omega) | (simp at *; omega))) | with_reducible refine ch_trans ?_ (by with_reducible assumption)))); have e4 := cell_on e1 (show Below wr.heap.size wr w2 from (by repeat (first | with_reducible exact Below.refl _ _ | with_reducible assumption | with_reducible refine ch_alloc ?_ _ | with_reducible refine Below.drew ?_ | with_reducible refine below_draws _ ?_ | (with_reducible refine Below.setCell ?_ ?_ _; rotate_left; focus (first | with_reducible exact Nat.le_refl _ | (simp; done) | (simp; omega) | (simp at *; omega))) | with_reducible refine ch_trans ?_ (by with_reducible assumption)))); have e5 := cell_on e2 (show Below wr.heap.size wr w2 from (by repeat (first | with_reducible exact Below.refl _ _ | with_reducible assumption | with_reducible refine ch_alloc ?_ _ | with_reducible refine Below.drew ?_ | with_reducible refine below_draws _ ?_ | (with_reducible refine Below.setCell ?_ ?_ _; rotate_left; focus (first | with_reducible exact Nat.le_refl _ | (simp; done) | (simp; omega) | (simp at *; omega))) | with_reducible refine ch_trans ?_ (by with_reducible assumption)))))
        | (refine app_step rfl (.tmp 16) (.tmp 24) rfl Try.underlying60 infoVal rfl (by decide) (by decide) (w.heap.size + 1 + 1) _ (((keyVals t vs).take k).map Vc.cells) rfl (HG'.out.on (ch_alloc (show Below wr.heap.size wr w2 from (by repeat (first | with_reducible exact Below.refl _ _ | with_reducible assumption | with_reducible refine ch_alloc ?_ _ | with_reducible refine Below.drew ?_ | with_reducible refine below_draws _ ?_ | (with_reducible refine Below.setCell ?_ ?_ _; rotate_left; focus (first | with_reducible exact Nat.le_refl _ | (simp; done) | (simp; omega) | (simp at *; omega))) | with_reducible refine ch_trans ?_ (by with_reducible assumption)))) _)) w2.heap.size 1 vs[i].cells rfl (Loc.new _ _ _) rfl (val_one _) (by simp; omega) (by have := b2.size; simp at this ⊢; omega) ?_; intro v' w3 hg3 hb3))
      all_goals
        have HG2 : Hid (Got w3 (w.heap.size + 1 + 1) 84 3 v' (((keyVals t vs).take (k + 1)).map Vc.cells)) := by
          show Got _ _ _ _ _ _
          have h := HPL.out
          unfold keyVals
          rw [h]; exact hg3
        have hb4 : Below (w.heap.size + 1 + 1) w1 w3 := (hb.trans (Below.mono (show Below wr.heap.size wr (w2.alloc (.cells vs[i].cells 84)) from (by repeat (first | with_reducible exact Below.refl _ _ | with_reducible assumption | with_reducible refine ch_alloc ?_ _ | with_reducible refine Below.drew ?_ | with_reducible refine below_draws _ ?_ | (with_reducible refine Below.setCell ?_ ?_ _; rotate_left; focus (first | with_reducible exact Nat.le_refl _ | (simp; done) | (simp; omega) | (simp at *; omega))) | with_reducible refine ch_trans ?_ (by with_reducible assumption)))) hB)).trans hb3
        clear hb3 hg3
        go_wp2
        go_round
        case rel => exact ⟨k + 1, by omega, by go_num, hb4, HG2⟩
        case measure => simp [intOf]; omega
    · have hlti : (t.keys.length : Int) ≤ k := by omega
      have HI : Hid (Got wr w.heap.size 84 3 (.slice ag ng cg) ((keyVals t vs).map Vc.cells)) := by
        have h := HG'.out
        rw [List.take_of_length_le (by simp [keyVals, valsAt, Tc.places]; omega)] at h
        exact h.mono (by omega)
      go_wp2
      go_ret
      exact ⟨_, rfl, hbw, HI.out⟩
end Go.Proofs.Ytbjnonondnemhab

namespace Go.Proofs.Ytbjnonondnemhab
open Go.ChangeShapes Go.WideShapes Go.ChangeAt Go.RowKit

theorem add_flat (b off j : Nat) : (⟨b, off, none⟩ : Addr).add j = ⟨b, off + j, none⟩ := by unfold Addr.add; by_cases hj : j = 0 <;> simp [hj]
theorem RowAt.news {w : World} {b off z : Nat} {ys : List (Array Value)} (h : RowAt w (some ⟨b, off, none⟩) z ys) (hz : 0 < z) (j : Nat) (u : Value) (hj : (ys.flatMap Array.toList)[j]? = some u) : w.cell? ((⟨b, off, none⟩ : Addr).add j) = some u := by
  obtain ⟨h0, h⟩ := h
  have hlt : j < ys.length * z := by
    have := (List.getElem?_eq_some_iff.1 hj).1
    rwa [flat_len ys h0] at this
  rcases h with h | ⟨b', off', e, h⟩
  · subst h; simp at hlt
  · cases e
    have hi : j / z < ys.length := Nat.div_lt_of_lt_mul (by rwa [Nat.mul_comm])
    have hr : j % z < z := Nat.mod_lt _ hz
    have hd : j / z * z + j % z = j := by rw [Nat.mul_comm]; exact Nat.div_add_mod j z
    have h1 := h (j / z) hi (j % z) hr
    have h2 := flat_at ys h0 (j / z) hi (j % z) hr
    rw [hd, hj] at h2
    rw [add_flat, h2, ← h1, Nat.add_assoc, hd]

section
variable {P : Program} {w : World} {t T : TypeId} {zv : Value} {z bytes : Nat}
/-- Some elements behind those of a row of the call's own. -/
theorem app_all (ht : P.underlying t = some (.slice T)) (hinfo : (P.info? T).map (fun i => (i.zero, i.size, i.bytes)) = some (some zv, z, bytes)) (hzs : zv.cells.size = z) (hsz : 0 < z) (hby : bytes ≤ 1000)
    {B : Nat} {v : Value} {xs : List (Array Value)} (hown : Got w B T z v xs) {b off c : Nat} {ys : List (Array Value)} (hy : RowAt w (some ⟨b, off, none⟩) z ys) (h1 : ∀ x ∈ ys, ∀ u ∈ x.toList, u.oneCell' = true) (hlen : xs.length + ys.length < 1000000000) (hB : B ≤ w.heap.size) (ty : TypeId) :
    ∃ v' w', (Builtin.append_ #[t, t] ty #[v, .slice (some ⟨b, off, none⟩) ys.length c]).run P w = .ok v' w' ∧ Got w' B T z v' (xs ++ ys) ∧ Below B w w' ∧ Turns (fun c => v.ownBlock = some c) w w' := by
  obtain ⟨i, hi, hzz⟩ := Option.map_eq_some_iff.1 hinfo
  simp only [Prod.mk.injEq] at hzz
  obtain ⟨hz0, hz1, hz2⟩ := hzz
  obtain ⟨v', w', hr, h2, h3, _⟩ := run_append_own_wide (P := P) w B t ty T i zv z bytes ht hi hz0 hz1 hz2 hzs hsz v xs.length (xs.flatMap Array.toList) hown.2 ⟨b, off, none⟩ ys.length c (ys.flatMap Array.toList) (flat_len ys hy.1) (hy.news hsz) (fun u hu => by
      obtain ⟨x, hx, hu⟩ := List.mem_flatMap.1 hu
      exact h1 x hx u hu) (by unfold maxLen; omega) (by
      have : ((xs.length + ys.length) + (xs.length + ys.length) / 4 + 192) * bytes ≤ 2000000000 * 1000 := Nat.mul_le_mul (by omega) hby
      omega) hB
  refine ⟨v', w', hr, ⟨fun y hy' => ?_, ?_⟩, Below.grown (Below.refl _ _) h3 hB (fun k hk => (World.ownsRow.lt hown.2 k hk).1), ⟨h3.os, h3.tape, h3.output, h3.size, fun c hc hn => h3.block c hc fun e => hn e.symm⟩⟩
  · rcases List.mem_append.1 hy' with hy' | hy'
    · exact hown.1 y hy'
    · exact hy.1 y hy'
  · rw [List.flatMap_append, List.length_append]
    exact h2
theorem Got.empty (w : World) (T : TypeId) (z : Nat) : Got (w.alloc (.cells #[] T)) w.heap.size T z (.slice (some ⟨w.heap.size, 0, none⟩) 0 0) [] :=
  ⟨fun x h => by simp at h, by simp, Or.inr ⟨_, 0, #[], rfl, Nat.le_refl _, Own.new w T #[], Nat.le_refl _, Nat.zero_le _, by simp, by simp⟩⟩
theorem Got.emptyAt (w : World) (T : TypeId) (z : Nat) {n : Nat} (h : w.heap.size = n) : Got (w.alloc (.cells #[] T)) n T z (.slice (some ⟨n, 0, none⟩) 0 0) [] := h ▸ Got.empty w T z
variable {ops : Array Oper} {rest : List Oper} {o : Oper} {a : Act} {Q : Exit → Act → World → Prop}
theorem app_lot (hgd : o.guard = none) (s y : Operand) (ho : o.op = .call { callee := .builtin .append, args := #[s, y], argTypes := #[t, t] })
    (ht : P.underlying t = some (.slice T)) (hinfo : (P.info? T).map (fun i => (i.zero, i.size, i.bytes)) = some (some zv, z, bytes)) (hzs : zv.cells.size = z) (hsz : 0 < z) (hby : bytes ≤ 1000)
    (B : Nat) (v : Value) (xs : List (Array Value)) (hs : a.eval s = v) (hown : Got w B T z v xs) (b off c : Nat) (ys : List (Array Value)) (n : Nat) (hn : n = ys.length) (hy : a.eval y = .slice (some ⟨b, off, none⟩) n c) (hrow : RowAt w (some ⟨b, off, none⟩) z ys) (h1 : ∀ x ∈ ys, ∀ u ∈ x.toList, u.oneCell' = true) (hlen : xs.length + ys.length < 1000000000) (hB : B ≤ w.heap.size)
    (h : ∀ v' w', Got w' B T z v' (xs ++ ys) → Below B w w' → wpList P ops Q rest (a.put o.dst v') w') : wpList P ops Q (o :: rest) a w := by
  subst hn
  obtain ⟨v', w', hr, h2, h3, _⟩ := app_all ht hinfo hzs hsz hby hown hrow h1 hlen hB (c := c) o.type
  refine wpList_plain hgd fun _ hK => ?_
  unfold Oper.wp execOp
  simp only [ho, resolve, invoke, builtin, Sem.run_bind, Sem.run_pure, Result.andThen_ok, List.map_toArray, List.map_cons, List.map_nil, hs, hy, hr]
  exact hK _ _ (h v' w' h2 h3)
theorem Loc.row1 {w : World} {b : Nat} {x : Array Value} (h : Loc w b x) {z : Nat} (hz : x.size = z) : RowAt w (some ⟨b, 0, none⟩) z [x] := by
  refine ⟨fun y hy => by simp at hy; subst hy; exact hz, Or.inr ⟨b, 0, rfl, fun i hi j hj => ?_⟩⟩
  simp at hi
  subst hi
  simp only [Nat.zero_mul, Nat.zero_add, List.getElem_cons_zero]
  rw [h j (by omega), Array.getElem?_eq_getElem (by omega)]
/-- One element behind those of a row of the call's own; nothing else turns. -/
theorem app_turn (hgd : o.guard = none) (s y : Operand) (ho : o.op = .call { callee := .builtin .append, args := #[s, y], argTypes := #[t, t] })
    (ht : P.underlying t = some (.slice T)) (hinfo : (P.info? T).map (fun i => (i.zero, i.size, i.bytes)) = some (some zv, z, bytes)) (hzs : zv.cells.size = z) (hsz : 0 < z) (hby : bytes ≤ 1000)
    (B : Nat) (v : Value) (xs : List (Array Value)) (hs : a.eval s = v) (hown : Got w B T z v xs) (b m : Nat) (x : Array Value) (hy : a.eval y = .slice (some ⟨b, 0, none⟩) 1 m) (hx : Loc w b x) (hxz : x.size = z) (h1 : ∀ u ∈ x.toList, u.oneCell' = true) (hlen : xs.length < 900000000) (hB : B ≤ w.heap.size)
    (h : ∀ v' w', Got w' B T z v' (xs ++ [x]) → Below B w w' → Turns (fun c => v.ownBlock = some c) w w' → wpList P ops Q rest (a.put o.dst v') w') : wpList P ops Q (o :: rest) a w := by
  obtain ⟨v', w', hr, h2, h3, h4⟩ := app_all ht hinfo hzs hsz hby hown (hx.row1 hxz) (fun q hq u hu => by simp at hq; subst hq; exact h1 u hu) (by simp; omega) hB (c := m) o.type
  refine wpList_plain hgd fun _ hK => ?_
  unfold Oper.wp execOp
  simp only [List.length_cons, List.length_nil, Nat.zero_add] at hr
  simp only [ho, resolve, invoke, builtin, Sem.run_bind, Sem.run_pure, Result.andThen_ok, List.map_toArray, List.map_cons, List.map_nil, hs, hy, hr]
  exact hK _ _ (h v' w' h2 h3 h4)
end
theorem vals_one (vs : List Vc) : ∀ x ∈ vs.map Vc.cells, ∀ u ∈ x.toList, u.oneCell' = true := fun x hx u hu => by
  obtain ⟨c, _, rfl⟩ := List.mem_map.1 hx
  exact val_one c u hu

theorem notNil (b off n p : Nat) (w : World) : (binOp .eql 60 (.slice (some ⟨b, off, none⟩) n p) (.slice none 0 0)).run Try.prog w = .ok (.bool false) w := by kernel_rfl

set_option maxRecDepth 100000 in
set_option maxHeartbeats 1000000 in
/-- slices.Clone of some values -/
theorem cloneVals (v : Value) (vs : List Vc) (w : World) (hv : ValsV w v vs) (h1 : 1 ≤ vs.length) (hl : vs.length ≤ 1048576) :
    Calls Try.prog 89 #[v] w fun e w' => ∃ kv, e = .returned kv ∧ Below w.heap.size w w' ∧ Got w' w.heap.size 84 3 kv (vs.map Vc.cells) := by
  obtain ⟨a, p, rfl, hlp, hm, hv⟩ := hv.lit
  unfold maxLen at hm
  obtain ⟨b, off, rfl, _⟩ := hv.row.vals 0 h1
  have HR : Hid (RowAt w (some ⟨b, off, none⟩) 3 (vs.map Vc.cells)) := hv.row
  have hnn := notNil b off vs.length p w
  clear hv
  go_enter Try.func89, Try.ntmps89
  go_wp2_with (at_builtin; refine app_lot rfl (.tmp 5) (.tmp 6) rfl Try.underlying60 infoVal rfl (by decide) (by decide) w.heap.size _ [] rfl (Got.empty w _ _) b off p (vs.map Vc.cells) vs.length (by simp) rfl (HR.out.on (ch_alloc (Below.refl _ _) _)) (vals_one vs) (by simp; omega) (by simp) ?_; intro v' w2 hg2 hb2)
  go_ret
  exact ⟨_, rfl, Below.trans (ch_alloc (Below.refl _ _) _) hb2, by simpa using hg2⟩

set_option maxRecDepth 100000 in
set_option maxHeartbeats 1000000 in
/-- impl.copyRow -/
theorem copyRow_any (v : Value) (vs : List Vc) (w : World) (hv : ValsV w v vs) (h1 : 1 ≤ vs.length) (hl : vs.length ≤ 1048576) :
    Calls Try.prog 90 #[.agg #[v]] w fun e w' => ∃ kv, e = .returned (.agg #[kv]) ∧ Below w.heap.size w w' ∧ Got w' w.heap.size 84 3 kv (vs.map Vc.cells) := by
  obtain ⟨a, p, rfl, hlp, hm, hv⟩ := hv.lit
  have HV : Hid (ValsV w (.slice a vs.length p) vs) := hv
  clear hv
  go_enter Try.func90, Try.ntmps90
  go_wp2_with fail
  refine (cloneVals _ vs _ (HV.out.on (by repeat (first | with_reducible exact Below.refl _ _ | with_reducible assumption | with_reducible refine ch_alloc ?_ _ | with_reducible refine Below.drew ?_ | with_reducible refine below_draws _ ?_ | (with_reducible refine Below.setCell ?_ ?_ _; rotate_left; focus (first | with_reducible exact Nat.le_refl _ | (simp; done) | (simp; omega) | (simp at *; omega))) | with_reducible refine ch_trans ?_ (by with_reducible assumption)))) h1 hl).mono ?_
  rintro e w1 ⟨kv, rfl, b1, hg⟩
  obtain ⟨a1, n1, c1, rfl, hg⟩ := hg.lit2
  have HG : Hid (Got w1 (w.heap.size + 1 + 1) 84 3 (.slice a1 n1 c1) (vs.map Vc.cells)) := hg.mono (by simp)
  have HQ : Own w1 (w.heap.size + 1) 62 #[.slice none 0 0] := (Own.at (w.alloc (.cells #[.slice a vs.length p] 62)) _ _ (by simp)).on b1
  have hb1 : Below w.heap.size w w1 := (by repeat (first | with_reducible exact Below.refl _ _ | with_reducible assumption | with_reducible refine ch_alloc ?_ _ | with_reducible refine Below.drew ?_ | with_reducible refine below_draws _ ?_ | (with_reducible refine Below.setCell ?_ ?_ _; rotate_left; focus (first | with_reducible exact Nat.le_refl _ | (simp; done) | (simp; omega) | (simp at *; omega))) | with_reducible refine ch_trans ?_ (by with_reducible assumption)))
  clear b1 hg
  have g0 := HQ.loc.one
  have i0 := HQ.frozen 0
  go_wp2
  have HQ3 := HQ.set 0 (.slice a1 n1 c1)
  have HG3 : Hid (Got (w1.setCell ⟨w.heap.size + 1, 0, none⟩ (.slice a1 n1 c1)) (w.heap.size + 1 + 1) 84 3 (.slice a1 n1 c1) (vs.map Vc.cells)) := HG.out.turns ((Turns.refl (fun c => c = w.heap.size + 1) w1).set rfl _) (fun c h => by omega)
  have HB : Hid (Below w.heap.size w (w1.setCell ⟨w.heap.size + 1, 0, none⟩ (.slice a1 n1 c1))) := by show Below _ _ _; exact (by repeat (first | with_reducible exact Below.refl _ _ | with_reducible assumption | with_reducible refine ch_alloc ?_ _ | with_reducible refine Below.drew ?_ | with_reducible refine below_draws _ ?_ | (with_reducible refine Below.setCell ?_ ?_ _; rotate_left; focus (first | with_reducible exact Nat.le_refl _ | (simp; done) | (simp; omega) | (simp at *; omega))) | with_reducible refine ch_trans ?_ (by with_reducible assumption)))
  generalize w1.setCell ⟨w.heap.size + 1, 0, none⟩ (.slice a1 n1 c1) = W at HQ3 HG3 HB ⊢
  have e0 := HQ3.loc.one
  exact bodyPost_ret (v := .agg #[.slice a1 n1 c1]) (by simp [results, Try.results90, go_sem, e0]) rfl ⟨_, rfl, HB.out, HG3.out.mono (by omega)⟩

set_option maxRecDepth 100000 in
set_option maxHeartbeats 1000000 in
/-- spec.l03Row -/
theorem l03Row_any (v : Value) (vs : List Vc) (w : World) (hv : ValsV w v vs) (h1 : 1 ≤ vs.length) (hl : vs.length ≤ 1048576) :
    Calls Try.prog 87 #[.agg #[v]] w fun e w' => ∃ kv, e = .returned (.agg #[kv]) ∧ Below w.heap.size w w' ∧ Got w' w.heap.size 84 3 kv (vs.map Vc.cells) := by
  obtain ⟨a, p, rfl, hlp, hm, hv⟩ := hv.lit
  unfold maxLen at hm
  obtain ⟨b, off, rfl, _⟩ := hv.row.vals 0 h1
  have HR : Hid (RowAt w (some ⟨b, off, none⟩) 3 (vs.map Vc.cells)) := hv.row
  clear hv
  go_enter Try.func87, Try.ntmps87
  have HU : Hid (Got (((w.alloc (.cells #[.slice (some ⟨b, off, none⟩) vs.length p] 62)).alloc (.cells #[.slice none 0 0] 62)).alloc (.cells #[] 84)) (w.heap.size + 1 + 1) 84 3 (.slice (some ⟨w.heap.size + 1 + 1, 0, none⟩) 0 0) []) := Got.emptyAt _ _ _ (by simp)
  have HRU : Hid (RowAt (((w.alloc (.cells #[.slice (some ⟨b, off, none⟩) vs.length p] 62)).alloc (.cells #[.slice none 0 0] 62)).alloc (.cells #[] 84)) (some ⟨b, off, none⟩) 3 (vs.map Vc.cells)) := HR.out.on (by repeat (first | with_reducible exact Below.refl _ _ | with_reducible assumption | with_reducible refine ch_alloc ?_ _ | with_reducible refine Below.drew ?_ | with_reducible refine below_draws _ ?_ | (with_reducible refine Below.setCell ?_ ?_ _; rotate_left; focus (first | with_reducible exact Nat.le_refl _ | (simp; done) | (simp; omega) | (simp at *; omega))) | with_reducible refine ch_trans ?_ (by with_reducible assumption)))
  have HQ0 : Own (((w.alloc (.cells #[.slice (some ⟨b, off, none⟩) vs.length p] 62)).alloc (.cells #[.slice none 0 0] 62)).alloc (.cells #[] 84)) (w.heap.size + 1) 62 #[.slice none 0 0] := (Own.at (w.alloc (.cells #[.slice (some ⟨b, off, none⟩) vs.length p] 62)) _ _ (by simp)).on (ch_alloc (Below.refl _ _) _)
  have hbU : Below w.heap.size w (((w.alloc (.cells #[.slice (some ⟨b, off, none⟩) vs.length p] 62)).alloc (.cells #[.slice none 0 0] 62)).alloc (.cells #[] 84)) := (by repeat (first | with_reducible exact Below.refl _ _ | with_reducible assumption | with_reducible refine ch_alloc ?_ _ | with_reducible refine Below.drew ?_ | with_reducible refine below_draws _ ?_ | (with_reducible refine Below.setCell ?_ ?_ _; rotate_left; focus (first | with_reducible exact Nat.le_refl _ | (simp; done) | (simp; omega) | (simp at *; omega))) | with_reducible refine ch_trans ?_ (by with_reducible assumption)))
  have hsU : w.heap.size + 1 + 1 ≤ (((w.alloc (.cells #[.slice (some ⟨b, off, none⟩) vs.length p] 62)).alloc (.cells #[.slice none 0 0] 62)).alloc (.cells #[] 84)).heap.size := by simp
  go_wp2_with (at_builtin; refine app_lot rfl (.tmp 3) (.tmp 5) rfl Try.underlying60 infoVal rfl (by decide) (by decide) (w.heap.size + 1 + 1) _ [] rfl HU.out b off p (vs.map Vc.cells) vs.length (by simp) rfl HRU.out (vals_one vs) (by simp; omega) hsU ?_; intro v' w1 hg2 hb2; obtain ⟨a1, n1, c1, rfl, hg2⟩ := hg2.lit2; have HG : Hid (Got w1 (w.heap.size + 1 + 1) 84 3 (.slice a1 n1 c1) (vs.map Vc.cells)) := hg2; have HQ : Own w1 (w.heap.size + 1) 62 #[.slice none 0 0] := (hb2.block (w.heap.size + 1) (by omega)).trans HQ0; have hb1 : Below w.heap.size w w1 := hbU.trans (hb2.mono (by omega)); have g0 := HQ.loc.one; have i0 := HQ.frozen 0; clear hg2 hb2)
  have HQ3 := HQ.set 0 (.slice a1 n1 c1)
  have HG3 : Hid (Got (w1.setCell ⟨w.heap.size + 1, 0, none⟩ (.slice a1 n1 c1)) (w.heap.size + 1 + 1) 84 3 (.slice a1 n1 c1) (vs.map Vc.cells)) := HG.out.turns ((Turns.refl (fun c => c = w.heap.size + 1) w1).set rfl _) (fun c h => by omega)
  have HB : Hid (Below w.heap.size w (w1.setCell ⟨w.heap.size + 1, 0, none⟩ (.slice a1 n1 c1))) := hb1.setCell (by simp) _
  generalize w1.setCell ⟨w.heap.size + 1, 0, none⟩ (.slice a1 n1 c1) = W at HQ3 HG3 HB ⊢
  have e0 := HQ3.loc.one
  exact bodyPost_ret (v := .agg #[.slice a1 n1 c1]) (by simp [results, Try.results87, go_sem, e0]) rfl ⟨_, rfl, HB.out, HG3.out.mono (by omega)⟩
end Go.Proofs.Ytbjnonondnemhab
