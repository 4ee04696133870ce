/- The places of a right table's keys: the landed keyPlacesOf. A region that draws its order, in worlds that only grow: one walk serves every order. The key of a row: the given l03Key, the landed keyOf. Copies by append of a whole list. Numbers as bytes, written: given and landed. -/
import Derived.Test.YtikccmgpmbnkfaaGreatAp
import Derived.Test.YtikccmgpmbnkfaaGreatTbOkI
import Derived.Test.YtikccmgpmbnkfaaGreatCh
import Derived.Deep.QuietTactic
import Derived.BigQuiet
import Derived.Test.YtikccmgpmbnkfaaGreatVs
import Derived.Deep.RegionWith
import Derived.Test.YtikccmgpmbnkfaaGreatMarkG
import Derived.Test.YtikccmgpmbnkfaaGreatBt
namespace Go.Proofs.YtikccmgpmbnkfaaGreat
open Go.ChangeShapes Go.WideShapes Go.ChangeAt Go.RowKit

theorem MapIs.look_at {P : Program} {k t e : TypeId} {w : World} {b n : Nat} {L : List (ByteArray × Value)} (h : MapIs P k w b n L) (hk : P.underlying k = some .string) (ht : P.underlying t = some (.map k e)) {z : Value} (hz : (zeroValue e).run P w = .ok z w) {s : ByteArray} (hs : s.size ≤ maxLen) {p : ByteArray × Value} (hp : L.find? (fun p => decide (p.1 = s)) = some p) :
    (Instr.lookup t (.map (some b)) (.string s) false).run P w = .ok p.2 w := by
  obtain ⟨D, ho, h1, h2, _⟩ := h
  obtain ⟨v, ps, hr, hv⟩ := ho.lookup (Maps.string_keyed hk) ht hz (zd := .held z) (zp := []) rfl (WideMaps.keyOf_string_mk hk hs)
  rw [h2 s p hp] at hv
  have hv' : v = p.2 := by simp [rv] at hv; exact hv.1
  rw [hr, hv']
/-- Each key of a right table is at a place. -/
theorem right_key {t : Tc} (h : t.right) (j : Nat) (hj : j < t.keys.length) : ∃ i, ∃ hi : i < t.cols.length, colAt t.cols t.keys[j] = (i : Int) ∧ t.cols[i].nt = true := by
  obtain ⟨h1, g, h2⟩ := h.2.2.2.2.2.2 j hj
  have h3 := lastAt_ge t.cols t.keys j
  refine ⟨_, g, by omega, h2⟩
theorem right_keys {t : Tc} (h : t.right) : t.keys.length ≤ t.cols.length := by
  have hl : ∀ j, j ≤ t.keys.length → (j : Int) - 1 ≤ lastAt t.cols t.keys j := by
    intro j
    induction j with
    | zero => intro _; rw [lastAt]; omega
    | succ j ih =>
      intro hj
      have h1 := ih (by omega)
      have h2 := (h.2.2.2.2.2.2 j (by omega)).1
      rw [lastAt_succ (by omega)]
      omega
  have h0 := h.2.2.2.1
  have h1 := hl t.keys.length (Nat.le_refl _)
  obtain ⟨n, hn⟩ : ∃ n, t.keys.length = n + 1 := ⟨t.keys.length - 1, by omega⟩
  rw [hn, lastAt_succ (by omega)] at h1
  have := (colAt_lt t.cols t.keys[n]).2
  omega
/-- The places of the keys. -/
def Tc.places (t : Tc) : List Int := t.keys.map (colAt t.cols)
abbrev intX (i : Int) : Array Value := #[.int .i64 i]
/-- Numbers behind a slice. -/
def IntsV (w : World) (v : Value) (is : List Int) : Prop := ∃ a cap, v = .slice a is.length cap ∧ is.length ≤ cap ∧ cap ≤ maxLen ∧ RowAt w a 1 (is.map intX)
theorem IntsV.on {w w' : World} {v : Value} {is : List Int} (h : IntsV w v is) (b : Below w.heap.size w w') : IntsV w' v is := by
  obtain ⟨a, cap, e, h1, h2, h⟩ := h; exact ⟨a, cap, e, h1, h2, h.on b⟩
theorem IntsV.lit {w : World} {v : Value} {is : List Int} (h : IntsV w v is) : ∃ a cap, v = .slice a is.length cap ∧ is.length ≤ cap ∧ cap ≤ maxLen ∧ IntsV w (.slice a is.length cap) is := by
  obtain ⟨a, cap, rfl, h1, h2, h3⟩ := h; exact ⟨a, cap, rfl, h1, h2, a, cap, rfl, h1, h2, h3⟩
theorem IntsV.row {w : World} {a : Option Addr} {n cap : Nat} {is : List Int} (h : IntsV w (.slice a n cap) is) : RowAt w a 1 (is.map intX) := by
  obtain ⟨a', cap', e, _, _, h⟩ := h; cases e; exact h
theorem RowAt.ints {w : World} {a : Option Addr} {ks : List Int} (h : RowAt w a 1 (ks.map intX)) (k : Nat) (hk : k < ks.length) : ∃ b off, a = some ⟨b, off, none⟩ ∧ w.cell? ⟨b, off + k, none⟩ = some (.int .i64 ks[k]) := by
  rcases h.2 with h0 | ⟨b, off, ha, h⟩
  · rw [List.map_eq_nil_iff] at h0; subst h0; exact absurd hk (Nat.not_lt_zero _)
  · have hk' : k < (ks.map intX).length := by simpa using hk
    have e : (ks.map intX)[k] = intX ks[k] := by simp
    have := h k hk' 0 (by omega)
    rw [e, Nat.mul_one] at this
    exact ⟨b, off, ha, this⟩

theorem fieldAt (i ty dt dn : Int) (s ds : ByteArray) (nt has : Bool) (w : World) : (Instr.field 213 (.agg #[.int .i64 i, .string s, .int .i64 ty, .bool nt, .bool has, .int .i64 dt, .int .i64 dn, .string ds]) 0).run Tryz.prog w = .ok (.int .i64 i) w := by kernel_rfl
theorem infoInt : (Tryz.prog.info? 3).map (fun i => (i.zero, i.size, i.bytes)) = some (some (.int .i64 0), 1, 8) := by kernel_rfl

end Go.Proofs.YtikccmgpmbnkfaaGreat

namespace Go.Proofs.YtikccmgpmbnkfaaGreat
open Go.ChangeShapes Go.WideShapes Go.ChangeAt Go.RowKit

/-- A world grown out of another, nothing that was there turned. -/
def Grows (u w : World) : Prop := Below u.heap.size u w
theorem Grows.drawn (u : World) : Grows u { u with drawn := u.drawn + 1 } := ⟨rfl, rfl, rfl, Nat.le_refl _, fun _ _ => rfl⟩
theorem region_grown {P : Program} {id : Nat} {Q : Exit → Act → World → Prop} {a : Act} {u : World} {l : List Oper} (hm : P.follows .mixedOrders = true) (hB : Region.lexB .any l.toArray = true)
    (h : wpQuiet P l.toArray (Grows u) (fun a' => ∀ w', Grows u w' → Q .normal a' w') l a) : (Code.region id l.toArray true).wp P Q a u :=
  wp_region_quiet (C := Grows u) hm hB (Grows.drawn u) (by simpa using h)
/-- A callee that returns a value and only grows the world. -/
theorem Grows.call {P : Program} {f : FuncId} {args : Array Value} {u w : World} {v : Value} (hw : Grows u w) (h : Calls P f args w fun e w' => e = .returned v ∧ Below w.heap.size w w') : Calls P f args w fun e w' => e = .returned v ∧ Grows u w' :=
  h.mono fun _ _ ⟨h1, h2⟩ => ⟨h1, ch_trans hw h2⟩
theorem Grows.cell {u w : World} {p : Addr} {v : Value} (hw : Grows u w) (h : u.cell? p = some v) : w.cell? p = some v := cell_on h hw
end Go.Proofs.YtikccmgpmbnkfaaGreat

namespace Go.Proofs.YtikccmgpmbnkfaaGreat
open Go.ChangeShapes Go.WideShapes Go.ChangeAt Go.RowKit

abbrev Vc.zero : Vc := ⟨0, 0, ByteArray.empty⟩
/-- The values at some places. -/
def valsAt (is : List Int) (vs : List Vc) : List Vc := is.map fun i => vs.getD i.toNat Vc.zero
/-- The key of a row. -/
def keyVals (t : Tc) (vs : List Vc) : List Vc := valsAt t.places vs
theorem valsAt_take {is : List Int} {vs : List Vc} {k i : Nat} (hk : k < is.length) (he : is[k] = (i : Int)) (hi : i < vs.length) : ((valsAt is vs).take (k + 1)).map Vc.cells = ((valsAt is vs).take k).map Vc.cells ++ [vs[i].cells] := by
  have hl : k < (valsAt is vs).length := by simpa [valsAt] using hk
  rw [List.take_succ_eq_append_getElem hl, List.map_append]
  simp [valsAt, he, hi]
theorem Got.vals {w : World} {B : Nat} {T : TypeId} {v : Value} {vs : List Vc} (h : Got w B T 3 v (vs.map Vc.cells)) : ValsV w v vs := by
  obtain ⟨a, cap, e, h1, h2, h3, _⟩ := h.row
  exact ⟨a, cap, by simpa using e, by simpa using h1, h2, h3⟩
theorem infoVal : (Tryz.prog.info? 128).map (fun i => (i.zero, i.size, i.bytes)) = some (some (.agg #[.int .i64 0, .int .i64 0, .string ByteArray.empty]), 3, 32) := by kernel_rfl
theorem val_one (c : Vc) : ∀ u ∈ c.cells.toList, u.oneCell' = true := by
  intro u hu
  simp at hu
  rcases hu with rfl | rfl | rfl <;> rfl
/-- Places within a row. -/
def within' (is : List Int) (n : Nat) : Prop := ∀ k (h : k < is.length), ∃ i : Nat, i < n ∧ is[k] = (i : Int)
theorem right_within {t : Tc} (h : t.right) : within' t.places t.cols.length := fun k hk => by
  obtain ⟨i, hi, e, _⟩ := right_key h k (by simpa [Tc.places] using hk)
  exact ⟨i, hi, by simpa [Tc.places] using e⟩

end Go.Proofs.YtikccmgpmbnkfaaGreat

namespace Go.Proofs.YtikccmgpmbnkfaaGreat
open Go.ChangeShapes Go.WideShapes Go.ChangeAt Go.RowKit

theorem add_flat (b off j : Nat) : (⟨b, off, none⟩ : Addr).add j = ⟨b, off + j, none⟩ := by unfold Addr.add; by_cases hj : j = 0 <;> simp [hj]
theorem RowAt.news {w : World} {b off z : Nat} {ys : List (Array Value)} (h : RowAt w (some ⟨b, off, none⟩) z ys) (hz : 0 < z) (j : Nat) (u : Value) (hj : (ys.flatMap Array.toList)[j]? = some u) : w.cell? ((⟨b, off, none⟩ : Addr).add j) = some u := by
  obtain ⟨h0, h⟩ := h
  have hlt : j < ys.length * z := by
    have := (List.getElem?_eq_some_iff.1 hj).1
    rwa [flat_len ys h0] at this
  rcases h with h | ⟨b', off', e, h⟩
  · subst h; simp at hlt
  · cases e
    have hi : j / z < ys.length := Nat.div_lt_of_lt_mul (by rwa [Nat.mul_comm])
    have hr : j % z < z := Nat.mod_lt _ hz
    have hd : j / z * z + j % z = j := by rw [Nat.mul_comm]; exact Nat.div_add_mod j z
    have h1 := h (j / z) hi (j % z) hr
    have h2 := flat_at ys h0 (j / z) hi (j % z) hr
    rw [hd, hj] at h2
    rw [add_flat, h2, ← h1, Nat.add_assoc, hd]

section
variable {P : Program} {w : World} {t T : TypeId} {zv : Value} {z bytes : Nat}
/-- Some elements behind those of a row of the call's own. -/
theorem app_all (ht : P.underlying t = some (.slice T)) (hinfo : (P.info? T).map (fun i => (i.zero, i.size, i.bytes)) = some (some zv, z, bytes)) (hzs : zv.cells.size = z) (hsz : 0 < z) (hby : bytes ≤ 1000)
    {B : Nat} {v : Value} {xs : List (Array Value)} (hown : Got w B T z v xs) {b off c : Nat} {ys : List (Array Value)} (hy : RowAt w (some ⟨b, off, none⟩) z ys) (h1 : ∀ x ∈ ys, ∀ u ∈ x.toList, u.oneCell' = true) (hlen : xs.length + ys.length < 1000000000) (hB : B ≤ w.heap.size) (ty : TypeId) :
    ∃ v' w', (Builtin.append_ #[t, t] ty #[v, .slice (some ⟨b, off, none⟩) ys.length c]).run P w = .ok v' w' ∧ Got w' B T z v' (xs ++ ys) ∧ Below B w w' ∧ Turns (fun c => v.ownBlock = some c) w w' := by
  obtain ⟨i, hi, hzz⟩ := Option.map_eq_some_iff.1 hinfo
  simp only [Prod.mk.injEq] at hzz
  obtain ⟨hz0, hz1, hz2⟩ := hzz
  obtain ⟨v', w', hr, h2, h3, _⟩ := run_append_own_wide (P := P) w B t ty T i zv z bytes ht hi hz0 hz1 hz2 hzs hsz v xs.length (xs.flatMap Array.toList) hown.2 ⟨b, off, none⟩ ys.length c (ys.flatMap Array.toList) (flat_len ys hy.1) (hy.news hsz) (fun u hu => by
      obtain ⟨x, hx, hu⟩ := List.mem_flatMap.1 hu
      exact h1 x hx u hu) (by unfold maxLen; omega) (by
      have : ((xs.length + ys.length) + (xs.length + ys.length) / 4 + 192) * bytes ≤ 2000000000 * 1000 := Nat.mul_le_mul (by omega) hby
      omega) hB
  refine ⟨v', w', hr, ⟨fun y hy' => ?_, ?_⟩, Below.grown (Below.refl _ _) h3 hB (fun k hk => (World.ownsRow.lt hown.2 k hk).1), ⟨h3.os, h3.tape, h3.output, h3.size, fun c hc hn => h3.block c hc fun e => hn e.symm⟩⟩
  · rcases List.mem_append.1 hy' with hy' | hy'
    · exact hown.1 y hy'
    · exact hy.1 y hy'
  · rw [List.flatMap_append, List.length_append]
    exact h2
theorem Got.empty (w : World) (T : TypeId) (z : Nat) : Got (w.alloc (.cells #[] T)) w.heap.size T z (.slice (some ⟨w.heap.size, 0, none⟩) 0 0) [] :=
  ⟨fun x h => by simp at h, by simp, Or.inr ⟨_, 0, #[], rfl, Nat.le_refl _, Own.new w T #[], Nat.le_refl _, Nat.zero_le _, by simp, by simp⟩⟩
theorem Got.emptyAt (w : World) (T : TypeId) (z : Nat) {n : Nat} (h : w.heap.size = n) : Got (w.alloc (.cells #[] T)) n T z (.slice (some ⟨n, 0, none⟩) 0 0) [] := h ▸ Got.empty w T z
variable {ops : Array Oper} {rest : List Oper} {o : Oper} {a : Act} {Q : Exit → Act → World → Prop}
theorem app_lot (hgd : o.guard = none) (s y : Operand) (ho : o.op = .call { callee := .builtin .append, args := #[s, y], argTypes := #[t, t] })
    (ht : P.underlying t = some (.slice T)) (hinfo : (P.info? T).map (fun i => (i.zero, i.size, i.bytes)) = some (some zv, z, bytes)) (hzs : zv.cells.size = z) (hsz : 0 < z) (hby : bytes ≤ 1000)
    (B : Nat) (v : Value) (xs : List (Array Value)) (hs : a.eval s = v) (hown : Got w B T z v xs) (b off c : Nat) (ys : List (Array Value)) (n : Nat) (hn : n = ys.length) (hy : a.eval y = .slice (some ⟨b, off, none⟩) n c) (hrow : RowAt w (some ⟨b, off, none⟩) z ys) (h1 : ∀ x ∈ ys, ∀ u ∈ x.toList, u.oneCell' = true) (hlen : xs.length + ys.length < 1000000000) (hB : B ≤ w.heap.size)
    (h : ∀ v' w', Got w' B T z v' (xs ++ ys) → Below B w w' → wpList P ops Q rest (a.put o.dst v') w') : wpList P ops Q (o :: rest) a w := by
  subst hn
  obtain ⟨v', w', hr, h2, h3, _⟩ := app_all ht hinfo hzs hsz hby hown hrow h1 hlen hB (c := c) o.type
  refine wpList_plain hgd fun _ hK => ?_
  unfold Oper.wp execOp
  simp only [ho, resolve, invoke, builtin, Sem.run_bind, Sem.run_pure, Result.andThen_ok, List.map_toArray, List.map_cons, List.map_nil, hs, hy, hr]
  exact hK _ _ (h v' w' h2 h3)
theorem Loc.row1 {w : World} {b : Nat} {x : Array Value} (h : Loc w b x) {z : Nat} (hz : x.size = z) : RowAt w (some ⟨b, 0, none⟩) z [x] := by
  refine ⟨fun y hy => by simp at hy; subst hy; exact hz, Or.inr ⟨b, 0, rfl, fun i hi j hj => ?_⟩⟩
  simp at hi
  subst hi
  simp only [Nat.zero_mul, Nat.zero_add, List.getElem_cons_zero]
  rw [h j (by omega), Array.getElem?_eq_getElem (by omega)]
/-- One element behind those of a row of the call's own; nothing else turns. -/
theorem app_turn (hgd : o.guard = none) (s y : Operand) (ho : o.op = .call { callee := .builtin .append, args := #[s, y], argTypes := #[t, t] })
    (ht : P.underlying t = some (.slice T)) (hinfo : (P.info? T).map (fun i => (i.zero, i.size, i.bytes)) = some (some zv, z, bytes)) (hzs : zv.cells.size = z) (hsz : 0 < z) (hby : bytes ≤ 1000)
    (B : Nat) (v : Value) (xs : List (Array Value)) (hs : a.eval s = v) (hown : Got w B T z v xs) (b m : Nat) (x : Array Value) (hy : a.eval y = .slice (some ⟨b, 0, none⟩) 1 m) (hx : Loc w b x) (hxz : x.size = z) (h1 : ∀ u ∈ x.toList, u.oneCell' = true) (hlen : xs.length < 900000000) (hB : B ≤ w.heap.size)
    (h : ∀ v' w', Got w' B T z v' (xs ++ [x]) → Below B w w' → Turns (fun c => v.ownBlock = some c) w w' → wpList P ops Q rest (a.put o.dst v') w') : wpList P ops Q (o :: rest) a w := by
  obtain ⟨v', w', hr, h2, h3, h4⟩ := app_all ht hinfo hzs hsz hby hown (hx.row1 hxz) (fun q hq u hu => by simp at hq; subst hq; exact h1 u hu) (by simp; omega) hB (c := m) o.type
  refine wpList_plain hgd fun _ hK => ?_
  unfold Oper.wp execOp
  simp only [List.length_cons, List.length_nil, Nat.zero_add] at hr
  simp only [ho, resolve, invoke, builtin, Sem.run_bind, Sem.run_pure, Result.andThen_ok, List.map_toArray, List.map_cons, List.map_nil, hs, hy, hr]
  exact hK _ _ (h v' w' h2 h3 h4)
end
theorem vals_one (vs : List Vc) : ∀ x ∈ vs.map Vc.cells, ∀ u ∈ x.toList, u.oneCell' = true := fun x hx u hu => by
  obtain ⟨c, _, rfl⟩ := List.mem_map.1 hx
  exact val_one c u hu

theorem notNil (b off n p : Nat) (w : World) : (binOp .eql 40 (.slice (some ⟨b, off, none⟩) n p) (.slice none 0 0)).run Tryz.prog w = .ok (.bool false) w := by kernel_rfl

end Go.Proofs.YtikccmgpmbnkfaaGreat

namespace Go.Proofs.YtikccmgpmbnkfaaGreat
open Go.ChangeShapes Go.WideShapes Go.ChangeAt Go.RowKit

/-- A number in some bytes, the highest first. -/
def numL (n : Nat) : Nat → List UInt8
  | 0 => []
  | s + 1 => UInt8.ofNat (n / 256 ^ s) :: numL n s
theorem numL_length (n : Nat) : ∀ s, (numL n s).length = s
  | 0 => rfl
  | s + 1 => by rw [numL, List.length_cons, numL_length n s]
theorem dig_eq (n j : Nat) : ((UInt8.ofNat (n / 256 ^ j)).toNat : Int) = (n : Int) / 2 ^ (8 * j) % 256 := by
  rw [UInt8.toNat_ofNat', Int.natCast_emod, Int.natCast_ediv, Int.natCast_pow, Int.pow_mul]; rfl
theorem dig_nat (n j : Nat) : (UInt8.ofNat (n / 256 ^ j)).toNat = n / 256 ^ j % 256 := by rw [UInt8.toNat_ofNat']
theorem quo_dig (m J : Nat) (hm : m ≤ 281474976710656) : (wrap64 ((m : Int) / (J : Int))).tmod 256 % 256 = ((m / J % 256 : Nat) : Int) := by
  have hq : m / J ≤ m := Nat.div_le_self _ _
  rw [← Int.natCast_ediv]
  generalize m / J = Q at hq
  have e : wrap64 (Q : Int) = (Q : Int) := by unfold wrap64; omega
  rw [e, Int.tmod_eq_emod_of_nonneg (by omega)]
  omega
theorem notNilB (b off n p : Nat) (w : World) : (binOp .eql 26 (.slice (some ⟨b, off, none⟩) n p) (.slice none 0 0)).run Tryz.prog w = .ok (.bool false) w := by kernel_rfl

set_option maxRecDepth 100000 in
/-- impl.sizeOk -/
theorem sizeOk_any (s : Int) (w : World) : Calls Tryz.prog 136 #[.int .i64 s] w fun e w' => e = .returned (.bool (decide (1 ≤ s) && decide (s ≤ 6))) ∧ Below w.heap.size w w' := by
  by_cases h1 : s < 1
  · have e : (decide (1 ≤ s) && decide (s ≤ 6)) = false := by simp; omega
    rw [e]
    clear e
    go_enter Tryz.func136, Tryz.ntmps136
    go_wp2
    go_ret
    exact ⟨rfl, (by repeat (first | with_reducible exact Below.refl _ _ | with_reducible assumption | with_reducible refine ch_alloc ?_ _ | with_reducible refine Below.drew ?_ | with_reducible refine below_draws _ ?_ | (with_reducible refine Below.setCell ?_ ?_ _; rotate_left; focus (first | with_reducible exact Nat.le_refl _ | (simp; done) | (simp; omega) | (simp at *; omega))) | with_reducible refine ch_trans ?_ (by with_reducible assumption)))⟩
  by_cases h2 : s ≤ 6
  · have e : (decide (1 ≤ s) && decide (s ≤ 6)) = true := by simp; omega
    rw [e]
    clear e
    go_enter Tryz.func136, Tryz.ntmps136
    go_wp2
    go_ret
    exact ⟨rfl, (by repeat (first | with_reducible exact Below.refl _ _ | with_reducible assumption | with_reducible refine ch_alloc ?_ _ | with_reducible refine Below.drew ?_ | with_reducible refine below_draws _ ?_ | (with_reducible refine Below.setCell ?_ ?_ _; rotate_left; focus (first | with_reducible exact Nat.le_refl _ | (simp; done) | (simp; omega) | (simp at *; omega))) | with_reducible refine ch_trans ?_ (by with_reducible assumption)))⟩
  · have e : (decide (1 ≤ s) && decide (s ≤ 6)) = false := by simp; omega
    rw [e]
    clear e
    go_enter Tryz.func136, Tryz.ntmps136
    go_wp2
    go_ret
    exact ⟨rfl, (by repeat (first | with_reducible exact Below.refl _ _ | with_reducible assumption | with_reducible refine ch_alloc ?_ _ | with_reducible refine Below.drew ?_ | with_reducible refine below_draws _ ?_ | (with_reducible refine Below.setCell ?_ ?_ _; rotate_left; focus (first | with_reducible exact Nat.le_refl _ | (simp; done) | (simp; omega) | (simp at *; omega))) | with_reducible refine ch_trans ?_ (by with_reducible assumption)))⟩

theorem pow_le6 {k : Nat} (h : k ≤ 6) : 256 ^ k ≤ 281474976710656 := by
  have : (256 : Nat) ^ k ≤ 256 ^ 6 := Nat.pow_le_pow_right (by omega) h
  exact this
set_option maxRecDepth 100000 in
/-- spec.l06Pow -/
theorem l06Pow_any (s : Nat) (w : World) (hs : s ≤ 6) : Calls Tryz.prog 63 #[.int .i64 (s : Int)] w fun e w' => e = .returned (.int .i64 ((256 ^ s : Nat) : Int)) ∧ Below w.heap.size w w' := by
  go_enter Tryz.func63, Tryz.ntmps63
  go_wp2
  go_loopw [3, 4] (fun p i wr => ∃ k P : Nat, k ≤ s ∧ i = .int .i64 (k : Int) ∧ p = .int .i64 (P : Int) ∧ Hid (P = 256 ^ k) ∧ P ≤ 281474976710656 ∧ Below w.heap.size w wr) (fun _ i _ => s - (intOf i).toNat)
  case atStart => exact ⟨0, 1, Nat.zero_le _, rfl, rfl, rfl, by omega, (by repeat (first | with_reducible exact Below.refl _ _ | with_reducible assumption | with_reducible refine ch_alloc ?_ _ | with_reducible refine Below.drew ?_ | with_reducible refine below_draws _ ?_ | (with_reducible refine Below.setCell ?_ ?_ _; rotate_left; focus (first | with_reducible exact Nat.le_refl _ | (simp; done) | (simp; omega) | (simp at *; omega))) | with_reducible refine ch_trans ?_ (by with_reducible assumption)))⟩
  case round =>
    obtain ⟨k, P, hk, rfl, rfl, HP, hP, hb⟩ := hrel
    by_cases hlt : k < s
    · have hlti : (k : Int) < s := by omega
      have hP' : P * 256 ≤ 281474976710656 := by
        have := pow_le6 (k := k + 1) (by omega)
        rwa [Nat.pow_succ, ← HP.out] at this
      go_wp2
      go_round
      case rel => exact ⟨k + 1, P * 256, by omega, by go_num, by go_num, by show P * 256 = _; rw [Nat.pow_succ, HP.out], hP', (by repeat (first | with_reducible exact Below.refl _ _ | with_reducible assumption | with_reducible refine ch_alloc ?_ _ | with_reducible refine Below.drew ?_ | with_reducible refine below_draws _ ?_ | (with_reducible refine Below.setCell ?_ ?_ _; rotate_left; focus (first | with_reducible exact Nat.le_refl _ | (simp; done) | (simp; omega) | (simp at *; omega))) | with_reducible refine ch_trans ?_ (by with_reducible assumption)))⟩
      case measure => simp [intOf]; omega
    · have hlti : (s : Int) ≤ k := by omega
      obtain rfl : k = s := by omega
      have HE : Hid (((256 ^ k : Nat) : Int) = (P : Int)) := by show _ = _; rw [HP.out]
      go_wp2
      go_ret
      exact ⟨by rw [HE.out]; rfl, (by repeat (first | with_reducible exact Below.refl _ _ | with_reducible assumption | with_reducible refine ch_alloc ?_ _ | with_reducible refine Below.drew ?_ | with_reducible refine below_draws _ ?_ | (with_reducible refine Below.setCell ?_ ?_ _; rotate_left; focus (first | with_reducible exact Nat.le_refl _ | (simp; done) | (simp; omega) | (simp at *; omega))) | with_reducible refine ch_trans ?_ (by with_reducible assumption)))⟩

/-- Of what was there only blocks of bytes may have turned. -/
def Byt (w w' : World) : Prop := Turns (fun c => ∃ cur, w.heap[c]? = some (.cells cur 5)) w w'
theorem Byt.refl (w : World) : Byt w w := Turns.refl _ _
theorem Byt.trans {a b c : World} (h : Byt a b) (k : Byt b c) : Byt a c :=
  ⟨k.os.trans h.os, k.tape.trans h.tape, k.output.trans h.output, Nat.le_trans h.size k.size, fun i hi hn => (k.block i (Nat.lt_of_lt_of_le hi h.size) fun ⟨cur, hc⟩ => hn ⟨cur, (h.block i hi hn).symm.trans hc⟩).trans (h.block i hi hn)⟩
theorem Byt.below {a b c : World} (h : Byt a b) (k : Below b.heap.size b c) : Byt a c := Turns.below h k
theorem Byt.got {w w' : World} {B : Nat} {v : Value} {xs : List (Array Value)} (h : Got w B 5 1 v xs) (k : Turns (fun c => v.ownBlock = some c) w w') : Byt w w' :=
  k.mono fun c hc => by
    rcases h.2.2 with ⟨e, _⟩ | ⟨g, cap, cur, e, _, hg, _⟩
    · subst e; cases hc
    · subst e; cases hc; exact ⟨_, hg⟩
theorem Byt.own {w w' : World} (h : Byt w w') {c : Nat} {T : TypeId} {cells : Array Value} (ho : Own w c T cells) (hT : T ≠ 5) : Own w' c T cells :=
  (h.block c ho.lt fun ⟨cur, hc⟩ => by unfold Own at ho; rw [ho] at hc; cases hc; exact hT rfl).trans ho
set_option maxRecDepth 100000 in
set_option maxHeartbeats 1000000 in
/-- impl.appendNum -/
theorem appendNum_any (v : Value) (l : List UInt8) (n s B : Nat) (w : World) (hg : Got w B 5 1 v (l.map byX)) (hl : l.length ≤ 4000000) (hs : s ≤ 6) (hB : B ≤ w.heap.size) :
    Calls Tryz.prog 109 #[v, .int .i64 (n : Int), .int .i64 (s : Int)] w fun e w' => ∃ v', e = .returned v' ∧ Below B w w' ∧ Byt w w' ∧ Got w' B 5 1 v' ((l ++ numL n s).map byX) := by
  obtain ⟨a0, n0, c0, rfl, hg⟩ := hg.lit2
  have HG : Hid (Got w B 5 1 (.slice a0 n0 c0) (l.map byX)) := hg
  clear hg
  go_enter Tryz.func109, Tryz.ntmps109
  go_wp2
  go_loopw [0, 7] (fun q i wr => ∃ (k : Nat) (L : List UInt8), k ≤ s ∧ i = .int .i64 ((k : Int) - 1) ∧ Below B w wr ∧ Hid (Byt w wr) ∧ L.length ≤ l.length + (s - k) ∧ Hid (L ++ numL n k = l ++ numL n s) ∧ Hid (Got wr B 5 1 q (L.map byX))) (fun _ i _ => ((intOf i) + 1).toNat)
  case atStart => exact ⟨s, l, Nat.le_refl _, by go_num, Below.refl _ _, Byt.refl _, by omega, rfl, HG⟩
  case round =>
    clear HG
    obtain ⟨k, L, hk, rfl, hb, HY, hL, HL, HG⟩ := hrel
    obtain ⟨ag, ng, cg, rfl, hg⟩ := HG.out.lit2
    have HG' : Hid (Got wr B 5 1 (.slice ag ng cg) (L.map byX)) := hg
    clear HG hg
    cases k with
    | zero =>
      have HE : Hid (L = l ++ numL n s) := by
        have := HL.out; rw [numL, List.append_nil] at this; exact this
      go_wp2
      go_ret
      exact ⟨_, rfl, hb, HY.out, by rw [← HE.out]; exact HG'.out⟩
    | succ j =>
      have hj6 : j ≤ 5 := by omega
      rw [show (((j + 1 : Nat) : Int) - 1) = (j : Int) by omega]
      have HX : Hid (byX (UInt8.ofNat (n / 256 ^ j)) = #[.int .u8 ((n : Int) / 2 ^ (8 * j) % 256)]) := by show #[Value.int .u8 _] = _; rw [dig_eq]
      go_wp2_with (at_builtin; refine app_turn rfl (.tmp 14) (.tmp 20) rfl Tryz.underlying26 infoByte rfl (by decide) (by decide) B _ (L.map byX) rfl (HG'.out.on (ch_alloc (Below.refl _ _) _)) wr.heap.size 1 #[.int .u8 ((n : Int) / 2 ^ (8 * j) % 256)] rfl (Loc.new _ _ _) rfl (fun u hu => by simp at hu; subst hu; rfl) (by simp; omega) (by have := hb.size; simp; omega) ?_; intro v' w2 hg2 hb2 ht2)
      go_round
      case rel => exact ⟨j, L ++ [UInt8.ofNat (n / 256 ^ j)], by omega, by go_num, (hb.alloc (Nat.le_trans hB hb.size) _).trans hb2, (HY.out.below (ch_alloc (Below.refl _ _) _)).trans (Byt.got (HG'.out.on (ch_alloc (Below.refl _ _) _)) ht2), by simp; omega, by
        show _ = _
        rw [← HL.out, List.append_assoc]; rfl, by
        show Got _ _ _ _ _ _
        rw [List.map_append, List.map_cons, List.map_nil, HX.out]; exact hg2⟩
      case measure => simp [intOf]

theorem wrap_pow (z : Nat) (h : z ≤ 6) : wrap64 (2 ^ (8 * z)) = ((256 ^ z : Nat) : Int) := by
  have : z = 0 ∨ z = 1 ∨ z = 2 ∨ z = 3 ∨ z = 4 ∨ z = 5 ∨ z = 6 := by omega
  rcases this with rfl | rfl | rfl | rfl | rfl | rfl | rfl <;> decide +kernel
/-- The numbers that are put. -/
def okPut (n s : Int) : Prop := 1 ≤ s ∧ s ≤ 6 ∧ 0 ≤ n ∧ n < ((256 ^ s.toNat : Nat) : Int)
set_option maxRecDepth 100000 in
set_option maxHeartbeats 1000000 in
/-- spec.PutNum -/
theorem putNum_spec (b off p : Nat) (l : List UInt8) (n s : Int) (w : World) (hv : RowAt w (some ⟨b, off, none⟩) 1 (l.map byX)) (hl : l.length ≤ 2000000) (q : Bool) (L : List UInt8) (hq : (q = true ∧ okPut n s ∧ L = l ++ numL n.toNat s.toNat) ∨ (q = false ∧ ¬ okPut n s ∧ L = [])) :
    Calls Tryz.prog 30 #[.slice (some ⟨b, off, none⟩) l.length p, .int .i64 n, .int .i64 s] w fun e w' => ∃ v', e = .returned (.tuple #[v', .bool q]) ∧ Below w.heap.size w w' ∧ Got w' w.heap.size 5 1 v' (L.map byX) := by
  have HR : Hid (RowAt w (some ⟨b, off, none⟩) 1 (l.map byX)) := hv
  clear hv
  by_cases hs : 1 ≤ s ∧ s ≤ 6
  · obtain ⟨hs1, hs6⟩ := hs
    obtain ⟨z, rfl⟩ : ∃ z : Nat, s = (z : Int) := ⟨s.toNat, by omega⟩
    by_cases hn : n < 0
    · obtain ⟨rfl, rfl⟩ : q = false ∧ L = [] := by
        rcases hq with ⟨_, h, _⟩ | ⟨h, _, h'⟩
        · exact absurd h.2.2.1 (by omega)
        · exact ⟨h, h'⟩
      clear hq
      go_enter Tryz.func30, Tryz.ntmps30
      go_wp2
      go_ret2
      exact ⟨_, rfl, (by repeat (first | with_reducible exact Below.refl _ _ | with_reducible assumption | with_reducible refine ch_alloc ?_ _ | with_reducible refine Below.drew ?_ | with_reducible refine below_draws _ ?_ | (with_reducible refine Below.setCell ?_ ?_ _; rotate_left; focus (first | with_reducible exact Nat.le_refl _ | (simp; done) | (simp; omega) | (simp at *; omega))) | with_reducible refine ch_trans ?_ (by with_reducible assumption))), Got.nil _ _ _ _⟩
    · have hn' : 0 ≤ n := by omega
      obtain ⟨m, rfl⟩ : ∃ m : Nat, n = (m : Int) := ⟨n.toNat, by omega⟩
      have HP : Hid (∀ (k : Nat) (u : World), k ≤ 6 → Calls Tryz.prog 63 #[.int .i64 (k : Int)] u fun e w' => e = .returned (.int .i64 ((256 ^ k : Nat) : Int)) ∧ Below u.heap.size u w') := fun k u hk => l06Pow_any k u hk
      have hz6 : z ≤ 6 := by omega
      by_cases hge : m < 256 ^ z
      · obtain ⟨rfl, rfl⟩ : q = true ∧ L = l ++ numL m z := by
          rcases hq with ⟨h, _, h'⟩ | ⟨_, h, _⟩
          · exact ⟨h, by simpa using h'⟩
          · exact absurd ⟨hs1, hs6, hn', Int.ofNat_lt.2 hge⟩ h
        have hmm := pow_le6 hz6
        obtain ⟨Z, HZ⟩ : ∃ Z : Nat, Hid (Z = 256 ^ z) := ⟨_, rfl⟩
        have hge' : m < Z := by rw [HZ.out]; exact hge
        have HPz := HP.out z
        rw [← HZ.out] at HPz hmm
        have HPZ : Hid (∀ (u : World), Calls Tryz.prog 63 #[.int .i64 (z : Int)] u fun e w' => e = .returned (.int .i64 (Z : Int)) ∧ Below u.heap.size u w') := fun u => HPz u hz6
        clear hq hge HPz
        go_enter Tryz.func30, Tryz.ntmps30
        go_wp2_with (first
          | (go_at_call 63; refine (HPZ.out _).mono ?_; rintro e w1 ⟨rfl, b1⟩)
          | (at_builtin; refine app_lot rfl (.tmp 26) (.tmp 27) rfl Tryz.underlying26 infoByte rfl (by decide) (by decide) w1.heap.size _ [] rfl (Got.empty w1 _ _) b off p (l.map byX) l.length (by simp) rfl (HR.out.on (by repeat (first | with_reducible exact Below.refl _ _ | with_reducible assumption | with_reducible refine ch_alloc ?_ _ | with_reducible refine Below.drew ?_ | with_reducible refine below_draws _ ?_ | (with_reducible refine Below.setCell ?_ ?_ _; rotate_left; focus (first | with_reducible exact Nat.le_refl _ | (simp; done) | (simp; omega) | (simp at *; omega))) | with_reducible refine ch_trans ?_ (by with_reducible assumption)))) (byte_one l) (by simp; omega) (by simp) ?_; intro v' w2 hg2 hb2; have HG2 : Hid (Got w2 w1.heap.size 5 1 v' (l.map byX)) := by
              show Got _ _ _ _ _ _
              simpa using hg2))
        have hb12 : Below w1.heap.size w1 w2 := (ch_alloc (Below.refl _ _) _).trans hb2
        clear hg2 hb2
        have HPk : Hid (∀ (k : Nat) (u : World), k ≤ 6 → Calls Tryz.prog 63 #[.int .i64 (k : Int)] u fun e w' => e = .returned (.int .i64 ((256 ^ k : Nat) : Int)) ∧ Below u.heap.size u w') := HP
        go_loopw [8, 9] (fun q i wr => ∃ (k : Nat) (L : List UInt8), k ≤ z ∧ i = .int .i64 ((k : Int) - 1) ∧ Below w1.heap.size w1 wr ∧ L.length ≤ l.length + (z - k) ∧ Hid (L ++ numL m k = l ++ numL m z) ∧ Hid (Got wr w1.heap.size 5 1 q (L.map byX))) (fun _ i _ => ((intOf i) + 1).toNat)
        case atStart => exact ⟨z, l, Nat.le_refl _, by go_num, hb12, by omega, rfl, HG2⟩
        case round =>
          clear HG2
          obtain ⟨k, L, hk, rfl, hb, hL, HL, HG⟩ := hrel
          obtain ⟨ag, ng, cg, rfl, hg⟩ := HG.out.lit2
          have HG' : Hid (Got wr w1.heap.size 5 1 (.slice ag ng cg) (L.map byX)) := hg
          clear HG hg
          cases k with
          | zero =>
            have HE : Hid (L = l ++ numL m z) := by
              have := HL.out; rw [numL, List.append_nil] at this; exact this
            go_wp2
            go_ret2
            exact ⟨_, rfl, (by repeat (first | with_reducible exact Below.refl _ _ | with_reducible assumption | with_reducible refine ch_alloc ?_ _ | with_reducible refine Below.drew ?_ | with_reducible refine below_draws _ ?_ | (with_reducible refine Below.setCell ?_ ?_ _; rotate_left; focus (first | with_reducible exact Nat.le_refl _ | (simp; done) | (simp; omega) | (simp at *; omega))) | with_reducible refine ch_trans ?_ (by with_reducible assumption))), by rw [← HE.out]; exact HG'.out.mono b1.size⟩
          | succ j =>
            have hj6 : j ≤ 5 := by omega
            rw [show (((j + 1 : Nat) : Int) - 1) = (j : Int) by omega]
            obtain ⟨J, HJ⟩ : ∃ J : Nat, Hid (J = 256 ^ j) := ⟨_, rfl⟩
            have hJ0 : 0 < J := by rw [HJ.out]; exact Nat.pow_pos (by omega)
            have hPj := HPk.out j
            rw [← HJ.out] at hPj
            have HPJ : Hid (∀ (u : World), Calls Tryz.prog 63 #[.int .i64 (j : Int)] u fun e w' => e = .returned (.int .i64 (J : Int)) ∧ Below u.heap.size u w') := fun u => hPj u (by omega)
            clear hPj
            have HX : Hid (byX (UInt8.ofNat (m / 256 ^ j)) = #[.int .u8 ((wrap64 ((m : Int) / (J : Int))).tmod 256 % 256)]) := by
              show #[Value.int .u8 _] = _
              rw [dig_nat, ← HJ.out, quo_dig m J (by omega)]
            go_wp2_with (first
              | (go_at_call 63; refine (HPJ.out _).mono ?_; rintro e w3 ⟨rfl, b3⟩)
              | (at_builtin; refine app_one rfl (.tmp 35) (.tmp 42) rfl Tryz.underlying26 infoByte rfl (by decide) (by decide) w1.heap.size _ (L.map byX) rfl (HG'.out.on (by repeat (first | with_reducible exact Below.refl _ _ | with_reducible assumption | with_reducible refine ch_alloc ?_ _ | with_reducible refine Below.drew ?_ | with_reducible refine below_draws _ ?_ | (with_reducible refine Below.setCell ?_ ?_ _; rotate_left; focus (first | with_reducible exact Nat.le_refl _ | (simp; done) | (simp; omega) | (simp at *; omega))) | with_reducible refine ch_trans ?_ (by with_reducible assumption)))) w3.heap.size 1 #[.int .u8 ((wrap64 ((m : Int) / (J : Int))).tmod 256 % 256)] rfl (Loc.new _ _ _) rfl (fun u hu => by simp at hu; subst hu; rfl) (by simp; omega) (by have := hb.size; have := b3.size; simp; omega) ?_; intro v'' w4 hg4 hb4))
            go_round
            case rel => exact ⟨j, L ++ [UInt8.ofNat (m / 256 ^ j)], by omega, by go_num, ((ch_trans hb b3).alloc (Nat.le_trans hb.size b3.size) _).trans hb4, by simp; omega, by
              show _ = _
              rw [← HL.out, List.append_assoc]; rfl, by
              show Got _ _ _ _ _ _
              rw [List.map_append, List.map_cons, List.map_nil, HX.out]; exact hg4⟩
            case measure => simp [intOf]
      · obtain ⟨rfl, rfl⟩ : q = false ∧ L = [] := by
          rcases hq with ⟨_, h, _⟩ | ⟨h, _, h'⟩
          · exact absurd (Int.ofNat_lt.1 h.2.2.2) hge
          · exact ⟨h, h'⟩
        obtain ⟨Z, HZ⟩ : ∃ Z : Nat, Hid (Z = 256 ^ z) := ⟨_, rfl⟩
        have hge' : ¬ m < Z := by rw [HZ.out]; exact hge
        have HPz := HP.out z
        rw [← HZ.out] at HPz
        have HPZ : Hid (∀ (u : World), Calls Tryz.prog 63 #[.int .i64 (z : Int)] u fun e w' => e = .returned (.int .i64 (Z : Int)) ∧ Below u.heap.size u w') := fun u => HPz u hz6
        clear hq hge HPz
        go_enter Tryz.func30, Tryz.ntmps30
        go_wp2_with (go_at_call 63; refine (HPZ.out _).mono ?_; rintro e w1 ⟨rfl, b1⟩)
        go_ret2
        exact ⟨_, rfl, (by repeat (first | with_reducible exact Below.refl _ _ | with_reducible assumption | with_reducible refine ch_alloc ?_ _ | with_reducible refine Below.drew ?_ | with_reducible refine below_draws _ ?_ | (with_reducible refine Below.setCell ?_ ?_ _; rotate_left; focus (first | with_reducible exact Nat.le_refl _ | (simp; done) | (simp; omega) | (simp at *; omega))) | with_reducible refine ch_trans ?_ (by with_reducible assumption))), Got.nil _ _ _ _⟩
  · obtain ⟨rfl, rfl⟩ : q = false ∧ L = [] := by
      rcases hq with ⟨_, h, _⟩ | ⟨h, _, h'⟩
      · exact absurd ⟨h.1, h.2.1⟩ hs
      · exact ⟨h, h'⟩
    clear hq
    by_cases hs1 : s < 1
    · go_enter Tryz.func30, Tryz.ntmps30
      go_wp2
      go_ret2
      exact ⟨_, rfl, (by repeat (first | with_reducible exact Below.refl _ _ | with_reducible assumption | with_reducible refine ch_alloc ?_ _ | with_reducible refine Below.drew ?_ | with_reducible refine below_draws _ ?_ | (with_reducible refine Below.setCell ?_ ?_ _; rotate_left; focus (first | with_reducible exact Nat.le_refl _ | (simp; done) | (simp; omega) | (simp at *; omega))) | with_reducible refine ch_trans ?_ (by with_reducible assumption))), Got.nil _ _ _ _⟩
    · have hs6 : 6 < s := by omega
      go_enter Tryz.func30, Tryz.ntmps30
      go_wp2
      go_ret2
      exact ⟨_, rfl, (by repeat (first | with_reducible exact Below.refl _ _ | with_reducible assumption | with_reducible refine ch_alloc ?_ _ | with_reducible refine Below.drew ?_ | with_reducible refine below_draws _ ?_ | (with_reducible refine Below.setCell ?_ ?_ _; rotate_left; focus (first | with_reducible exact Nat.le_refl _ | (simp; done) | (simp; omega) | (simp at *; omega))) | with_reducible refine ch_trans ?_ (by with_reducible assumption))), Got.nil _ _ _ _⟩
end Go.Proofs.YtikccmgpmbnkfaaGreat
