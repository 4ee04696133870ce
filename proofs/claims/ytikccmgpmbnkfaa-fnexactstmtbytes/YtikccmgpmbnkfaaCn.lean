/- The places of a right table's keys: the landed keyPlacesOf. The key of a row: the given l03Key, the landed keyOf. Copies by append of a whole list. -/
import Derived.Test.YtikccmgpmbnkfaaAp
import Derived.Test.YtikccmgpmbnkfaaTbOkI
import Derived.Test.YtikccmgpmbnkfaaVs
import Derived.Test.YtikccmgpmbnkfaaGr
import Derived.Deep.RegionWith
import Derived.Test.YtikccmgpmbnkfaaMarkG
namespace Go.Proofs.Ytikccmgpmbnkfaa
open Go.ChangeShapes Go.WideShapes Go.ChangeAt Go.RowKit

theorem MapIs.look_at {P : Program} {k t e : TypeId} {w : World} {b n : Nat} {L : List (ByteArray × Value)} (h : MapIs P k w b n L) (hk : P.underlying k = some .string) (ht : P.underlying t = some (.map k e)) {z : Value} (hz : (zeroValue e).run P w = .ok z w) {s : ByteArray} (hs : s.size ≤ maxLen) {p : ByteArray × Value} (hp : L.find? (fun p => decide (p.1 = s)) = some p) :
    (Instr.lookup t (.map (some b)) (.string s) false).run P w = .ok p.2 w := by
  obtain ⟨D, ho, h1, h2, _⟩ := h
  obtain ⟨v, ps, hr, hv⟩ := ho.lookup (Maps.string_keyed hk) ht hz (zd := .held z) (zp := []) rfl (WideMaps.keyOf_string_mk hk hs)
  rw [h2 s p hp] at hv
  have hv' : v = p.2 := by simp [rv] at hv; exact hv.1
  rw [hr, hv']
/-- Each key of a right table is at a place. -/
theorem right_key {t : Tc} (h : t.right) (j : Nat) (hj : j < t.keys.length) : ∃ i, ∃ hi : i < t.cols.length, colAt t.cols t.keys[j] = (i : Int) ∧ t.cols[i].nt = true := by
  obtain ⟨h1, g, h2⟩ := h.2.2.2.2.2.2 j hj
  have h3 := lastAt_ge t.cols t.keys j
  refine ⟨_, g, by omega, h2⟩
theorem right_keys {t : Tc} (h : t.right) : t.keys.length ≤ t.cols.length := by
  have hl : ∀ j, j ≤ t.keys.length → (j : Int) - 1 ≤ lastAt t.cols t.keys j := by
    intro j
    induction j with
    | zero => intro _; rw [lastAt]; omega
    | succ j ih =>
      intro hj
      have h1 := ih (by omega)
      have h2 := (h.2.2.2.2.2.2 j (by omega)).1
      rw [lastAt_succ (by omega)]
      omega
  have h0 := h.2.2.2.1
  have h1 := hl t.keys.length (Nat.le_refl _)
  obtain ⟨n, hn⟩ : ∃ n, t.keys.length = n + 1 := ⟨t.keys.length - 1, by omega⟩
  rw [hn, lastAt_succ (by omega)] at h1
  have := (colAt_lt t.cols t.keys[n]).2
  omega
/-- The places of the keys. -/
def Tc.places (t : Tc) : List Int := t.keys.map (colAt t.cols)
abbrev intX (i : Int) : Array Value := #[.int .i64 i]
/-- Numbers behind a slice. -/
def IntsV (w : World) (v : Value) (is : List Int) : Prop := ∃ a cap, v = .slice a is.length cap ∧ is.length ≤ cap ∧ cap ≤ maxLen ∧ RowAt w a 1 (is.map intX)
theorem IntsV.on {w w' : World} {v : Value} {is : List Int} (h : IntsV w v is) (b : Below w.heap.size w w') : IntsV w' v is := by
  obtain ⟨a, cap, e, h1, h2, h⟩ := h; exact ⟨a, cap, e, h1, h2, h.on b⟩
theorem IntsV.lit {w : World} {v : Value} {is : List Int} (h : IntsV w v is) : ∃ a cap, v = .slice a is.length cap ∧ is.length ≤ cap ∧ cap ≤ maxLen ∧ IntsV w (.slice a is.length cap) is := by
  obtain ⟨a, cap, rfl, h1, h2, h3⟩ := h; exact ⟨a, cap, rfl, h1, h2, a, cap, rfl, h1, h2, h3⟩
theorem IntsV.row {w : World} {a : Option Addr} {n cap : Nat} {is : List Int} (h : IntsV w (.slice a n cap) is) : RowAt w a 1 (is.map intX) := by
  obtain ⟨a', cap', e, _, _, h⟩ := h; cases e; exact h
theorem RowAt.ints {w : World} {a : Option Addr} {ks : List Int} (h : RowAt w a 1 (ks.map intX)) (k : Nat) (hk : k < ks.length) : ∃ b off, a = some ⟨b, off, none⟩ ∧ w.cell? ⟨b, off + k, none⟩ = some (.int .i64 ks[k]) := by
  rcases h.2 with h0 | ⟨b, off, ha, h⟩
  · rw [List.map_eq_nil_iff] at h0; subst h0; exact absurd hk (Nat.not_lt_zero _)
  · have hk' : k < (ks.map intX).length := by simpa using hk
    have e : (ks.map intX)[k] = intX ks[k] := by simp
    have := h k hk' 0 (by omega)
    rw [e, Nat.mul_one] at this
    exact ⟨b, off, ha, this⟩

theorem fieldAt (i ty dt dn : Int) (s ds : ByteArray) (nt has : Bool) (w : World) : (Instr.field 163 (.agg #[.int .i64 i, .string s, .int .i64 ty, .bool nt, .bool has, .int .i64 dt, .int .i64 dn, .string ds]) 0).run Try.prog w = .ok (.int .i64 i) w := by kernel_rfl
theorem infoInt : (Try.prog.info? 3).map (fun i => (i.zero, i.size, i.bytes)) = some (some (.int .i64 0), 1, 8) := by kernel_rfl

end Go.Proofs.Ytikccmgpmbnkfaa

namespace Go.Proofs.Ytikccmgpmbnkfaa
open Go.ChangeShapes Go.WideShapes Go.ChangeAt Go.RowKit

abbrev Vc.zero : Vc := ⟨0, 0, ByteArray.empty⟩
/-- The values at some places. -/
def valsAt (is : List Int) (vs : List Vc) : List Vc := is.map fun i => vs.getD i.toNat Vc.zero
/-- The key of a row. -/
def keyVals (t : Tc) (vs : List Vc) : List Vc := valsAt t.places vs
theorem valsAt_take {is : List Int} {vs : List Vc} {k i : Nat} (hk : k < is.length) (he : is[k] = (i : Int)) (hi : i < vs.length) : ((valsAt is vs).take (k + 1)).map Vc.cells = ((valsAt is vs).take k).map Vc.cells ++ [vs[i].cells] := by
  have hl : k < (valsAt is vs).length := by simpa [valsAt] using hk
  rw [List.take_succ_eq_append_getElem hl, List.map_append]
  simp [valsAt, he, hi]
theorem Got.vals {w : World} {B : Nat} {T : TypeId} {v : Value} {vs : List Vc} (h : Got w B T 3 v (vs.map Vc.cells)) : ValsV w v vs := by
  obtain ⟨a, cap, e, h1, h2, h3, _⟩ := h.row
  exact ⟨a, cap, by simpa using e, by simpa using h1, h2, h3⟩
theorem infoVal : (Try.prog.info? 118).map (fun i => (i.zero, i.size, i.bytes)) = some (some (.agg #[.int .i64 0, .int .i64 0, .string ByteArray.empty]), 3, 32) := by kernel_rfl
theorem val_one (c : Vc) : ∀ u ∈ c.cells.toList, u.oneCell' = true := by
  intro u hu
  simp at hu
  rcases hu with rfl | rfl | rfl <;> rfl
/-- Places within a row. -/
def within' (is : List Int) (n : Nat) : Prop := ∀ k (h : k < is.length), ∃ i : Nat, i < n ∧ is[k] = (i : Int)
theorem right_within {t : Tc} (h : t.right) : within' t.places t.cols.length := fun k hk => by
  obtain ⟨i, hi, e, _⟩ := right_key h k (by simpa [Tc.places] using hk)
  exact ⟨i, hi, by simpa [Tc.places] using e⟩

end Go.Proofs.Ytikccmgpmbnkfaa

namespace Go.Proofs.Ytikccmgpmbnkfaa
open Go.ChangeShapes Go.WideShapes Go.ChangeAt Go.RowKit

theorem add_flat (b off j : Nat) : (⟨b, off, none⟩ : Addr).add j = ⟨b, off + j, none⟩ := by unfold Addr.add; by_cases hj : j = 0 <;> simp [hj]
theorem RowAt.news {w : World} {b off z : Nat} {ys : List (Array Value)} (h : RowAt w (some ⟨b, off, none⟩) z ys) (hz : 0 < z) (j : Nat) (u : Value) (hj : (ys.flatMap Array.toList)[j]? = some u) : w.cell? ((⟨b, off, none⟩ : Addr).add j) = some u := by
  obtain ⟨h0, h⟩ := h
  have hlt : j < ys.length * z := by
    have := (List.getElem?_eq_some_iff.1 hj).1
    rwa [flat_len ys h0] at this
  rcases h with h | ⟨b', off', e, h⟩
  · subst h; simp at hlt
  · cases e
    have hi : j / z < ys.length := Nat.div_lt_of_lt_mul (by rwa [Nat.mul_comm])
    have hr : j % z < z := Nat.mod_lt _ hz
    have hd : j / z * z + j % z = j := by rw [Nat.mul_comm]; exact Nat.div_add_mod j z
    have h1 := h (j / z) hi (j % z) hr
    have h2 := flat_at ys h0 (j / z) hi (j % z) hr
    rw [hd, hj] at h2
    rw [add_flat, h2, ← h1, Nat.add_assoc, hd]

section
variable {P : Program} {w : World} {t T : TypeId} {zv : Value} {z bytes : Nat}
/-- Some elements behind those of a row of the call's own. -/
theorem app_all (ht : P.underlying t = some (.slice T)) (hinfo : (P.info? T).map (fun i => (i.zero, i.size, i.bytes)) = some (some zv, z, bytes)) (hzs : zv.cells.size = z) (hsz : 0 < z) (hby : bytes ≤ 1000)
    {B : Nat} {v : Value} {xs : List (Array Value)} (hown : Got w B T z v xs) {b off c : Nat} {ys : List (Array Value)} (hy : RowAt w (some ⟨b, off, none⟩) z ys) (h1 : ∀ x ∈ ys, ∀ u ∈ x.toList, u.oneCell' = true) (hlen : xs.length + ys.length < 1000000000) (hB : B ≤ w.heap.size) (ty : TypeId) :
    ∃ v' w', (Builtin.append_ #[t, t] ty #[v, .slice (some ⟨b, off, none⟩) ys.length c]).run P w = .ok v' w' ∧ Got w' B T z v' (xs ++ ys) ∧ Below B w w' ∧ Turns (fun c => v.ownBlock = some c) w w' := by
  obtain ⟨i, hi, hzz⟩ := Option.map_eq_some_iff.1 hinfo
  simp only [Prod.mk.injEq] at hzz
  obtain ⟨hz0, hz1, hz2⟩ := hzz
  obtain ⟨v', w', hr, h2, h3, _⟩ := run_append_own_wide (P := P) w B t ty T i zv z bytes ht hi hz0 hz1 hz2 hzs hsz v xs.length (xs.flatMap Array.toList) hown.2 ⟨b, off, none⟩ ys.length c (ys.flatMap Array.toList) (flat_len ys hy.1) (hy.news hsz) (fun u hu => by
      obtain ⟨x, hx, hu⟩ := List.mem_flatMap.1 hu
      exact h1 x hx u hu) (by unfold maxLen; omega) (by
      have : ((xs.length + ys.length) + (xs.length + ys.length) / 4 + 192) * bytes ≤ 2000000000 * 1000 := Nat.mul_le_mul (by omega) hby
      omega) hB
  refine ⟨v', w', hr, ⟨fun y hy' => ?_, ?_⟩, Below.grown (Below.refl _ _) h3 hB (fun k hk => (World.ownsRow.lt hown.2 k hk).1), ⟨h3.os, h3.tape, h3.output, h3.size, fun c hc hn => h3.block c hc fun e => hn e.symm⟩⟩
  · rcases List.mem_append.1 hy' with hy' | hy'
    · exact hown.1 y hy'
    · exact hy.1 y hy'
  · rw [List.flatMap_append, List.length_append]
    exact h2
theorem Got.empty (w : World) (T : TypeId) (z : Nat) : Got (w.alloc (.cells #[] T)) w.heap.size T z (.slice (some ⟨w.heap.size, 0, none⟩) 0 0) [] :=
  ⟨fun x h => by simp at h, by simp, Or.inr ⟨_, 0, #[], rfl, Nat.le_refl _, Own.new w T #[], Nat.le_refl _, Nat.zero_le _, by simp, by simp⟩⟩
theorem Got.emptyAt (w : World) (T : TypeId) (z : Nat) {n : Nat} (h : w.heap.size = n) : Got (w.alloc (.cells #[] T)) n T z (.slice (some ⟨n, 0, none⟩) 0 0) [] := h ▸ Got.empty w T z
variable {ops : Array Oper} {rest : List Oper} {o : Oper} {a : Act} {Q : Exit → Act → World → Prop}
theorem app_lot (hgd : o.guard = none) (s y : Operand) (ho : o.op = .call { callee := .builtin .append, args := #[s, y], argTypes := #[t, t] })
    (ht : P.underlying t = some (.slice T)) (hinfo : (P.info? T).map (fun i => (i.zero, i.size, i.bytes)) = some (some zv, z, bytes)) (hzs : zv.cells.size = z) (hsz : 0 < z) (hby : bytes ≤ 1000)
    (B : Nat) (v : Value) (xs : List (Array Value)) (hs : a.eval s = v) (hown : Got w B T z v xs) (b off c : Nat) (ys : List (Array Value)) (n : Nat) (hn : n = ys.length) (hy : a.eval y = .slice (some ⟨b, off, none⟩) n c) (hrow : RowAt w (some ⟨b, off, none⟩) z ys) (h1 : ∀ x ∈ ys, ∀ u ∈ x.toList, u.oneCell' = true) (hlen : xs.length + ys.length < 1000000000) (hB : B ≤ w.heap.size)
    (h : ∀ v' w', Got w' B T z v' (xs ++ ys) → Below B w w' → wpList P ops Q rest (a.put o.dst v') w') : wpList P ops Q (o :: rest) a w := by
  subst hn
  obtain ⟨v', w', hr, h2, h3, _⟩ := app_all ht hinfo hzs hsz hby hown hrow h1 hlen hB (c := c) o.type
  refine wpList_plain hgd fun _ hK => ?_
  unfold Oper.wp execOp
  simp only [ho, resolve, invoke, builtin, Sem.run_bind, Sem.run_pure, Result.andThen_ok, List.map_toArray, List.map_cons, List.map_nil, hs, hy, hr]
  exact hK _ _ (h v' w' h2 h3)
theorem Loc.row1 {w : World} {b : Nat} {x : Array Value} (h : Loc w b x) {z : Nat} (hz : x.size = z) : RowAt w (some ⟨b, 0, none⟩) z [x] := by
  refine ⟨fun y hy => by simp at hy; subst hy; exact hz, Or.inr ⟨b, 0, rfl, fun i hi j hj => ?_⟩⟩
  simp at hi
  subst hi
  simp only [Nat.zero_mul, Nat.zero_add, List.getElem_cons_zero]
  rw [h j (by omega), Array.getElem?_eq_getElem (by omega)]
/-- One element behind those of a row of the call's own; nothing else turns. -/
theorem app_turn (hgd : o.guard = none) (s y : Operand) (ho : o.op = .call { callee := .builtin .append, args := #[s, y], argTypes := #[t, t] })
    (ht : P.underlying t = some (.slice T)) (hinfo : (P.info? T).map (fun i => (i.zero, i.size, i.bytes)) = some (some zv, z, bytes)) (hzs : zv.cells.size = z) (hsz : 0 < z) (hby : bytes ≤ 1000)
    (B : Nat) (v : Value) (xs : List (Array Value)) (hs : a.eval s = v) (hown : Got w B T z v xs) (b m : Nat) (x : Array Value) (hy : a.eval y = .slice (some ⟨b, 0, none⟩) 1 m) (hx : Loc w b x) (hxz : x.size = z) (h1 : ∀ u ∈ x.toList, u.oneCell' = true) (hlen : xs.length < 900000000) (hB : B ≤ w.heap.size)
    (h : ∀ v' w', Got w' B T z v' (xs ++ [x]) → Below B w w' → Turns (fun c => v.ownBlock = some c) w w' → wpList P ops Q rest (a.put o.dst v') w') : wpList P ops Q (o :: rest) a w := by
  obtain ⟨v', w', hr, h2, h3, h4⟩ := app_all ht hinfo hzs hsz hby hown (hx.row1 hxz) (fun q hq u hu => by simp at hq; subst hq; exact h1 u hu) (by simp; omega) hB (c := m) o.type
  refine wpList_plain hgd fun _ hK => ?_
  unfold Oper.wp execOp
  simp only [List.length_cons, List.length_nil, Nat.zero_add] at hr
  simp only [ho, resolve, invoke, builtin, Sem.run_bind, Sem.run_pure, Result.andThen_ok, List.map_toArray, List.map_cons, List.map_nil, hs, hy, hr]
  exact hK _ _ (h v' w' h2 h3 h4)
end
theorem vals_one (vs : List Vc) : ∀ x ∈ vs.map Vc.cells, ∀ u ∈ x.toList, u.oneCell' = true := fun x hx u hu => by
  obtain ⟨c, _, rfl⟩ := List.mem_map.1 hx
  exact val_one c u hu

theorem notNil (b off n p : Nat) (w : World) : (binOp .eql 55 (.slice (some ⟨b, off, none⟩) n p) (.slice none 0 0)).run Try.prog w = .ok (.bool false) w := by kernel_rfl

end Go.Proofs.Ytikccmgpmbnkfaa
