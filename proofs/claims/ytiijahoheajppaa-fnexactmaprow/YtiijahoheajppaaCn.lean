/- Rows of values of a call's own, marked and read again. Copies by append of a whole list. -/
import Derived.Test.YtiijahoheajppaaMarkV
import Derived.Test.YtiijahoheajppaaMr
namespace Go.Proofs.Ytiijahoheajppaa
open Go.ChangeShapes Go.WideShapes Go.ChangeAt Go.RowKit

theorem Turns.toBelow {S : Nat → Prop} {a b : World} (h : Turns S a b) {B : Nat} (hB : ∀ c, S c → B ≤ c) (hs : B ≤ a.heap.size) : Below B a b :=
  ⟨h.os, h.tape, h.output, h.size, fun i hi => h.block i (by omega) fun hc => by have := hB i hc; omega⟩
theorem Got.turns {w w' : World} {B : Nat} {T : TypeId} {z : Nat} {v : Value} {xs : List (Array Value)} (h : Got w B T z v xs) {S : Nat → Prop} (k : Turns S w w') (hS : ∀ c, S c → c < B) : Got w' B T z v xs := by
  obtain ⟨h0, h1, h2⟩ := h
  refine ⟨h0, h1, ?_⟩
  rcases h2 with h2 | ⟨g, cap, cur, e, hb, hg, r⟩
  · exact Or.inl h2
  · exact Or.inr ⟨g, cap, cur, e, hb, (k.block g (Array.getElem?_eq_some_iff.1 hg).1 fun hc => by have := hS g hc; omega).trans hg, r⟩
/-- The values behind a slice are marks, from k on. -/
def Held (w : World) (v : Value) (k n : Nat) : Prop := (v = .slice none 0 0 ∧ n = 0) ∨ ∃ b cap m T f, v = .slice (some ⟨b, 0, none⟩) n cap ∧ w.rowIs b T m f ∧ n * 3 ≤ m ∧ ∀ i, i < n * 3 → f i = markV k i
theorem Held.on {w w' : World} {v : Value} {k n : Nat} (h : Held w v k n) (b : Below w.heap.size w w') : Held w' v k n := by
  rcases h with h | ⟨b', cap, m, T, f, e, h1, h2⟩
  · exact Or.inl h
  · exact Or.inr ⟨b', cap, m, T, f, e, rowIs_on h1 b, h2⟩
set_option maxRecDepth 100000 in
theorem markValS_nil (k : Nat) (w : World) : Calls Try.prog 22 #[.slice none 0 0, .int .i64 k] w fun e w' => e = .returned (.int .i64 k) ∧ Below w.heap.size w w' := by
  go_enter Try.func22, Try.ntmps22
  go_wp2
  go_loopw [1, 5] (fun q i wr => i = .int .i64 0 ∧ q = .int .i64 (k : Int) ∧ Below w.heap.size w wr) (fun _ _ _ => 0)
  case atStart => exact ⟨rfl, rfl, (by repeat (first | with_reducible exact Below.refl _ _ | with_reducible assumption | with_reducible refine ch_alloc ?_ _ | with_reducible refine Below.drew ?_ | with_reducible refine below_draws _ ?_ | (with_reducible refine Below.setCell ?_ ?_ _; rotate_left; focus (first | with_reducible exact Nat.le_refl _ | (simp; done) | (simp; omega) | (simp at *; omega))) | with_reducible refine ch_trans ?_ (by with_reducible assumption)))⟩
  case round =>
    obtain ⟨rfl, rfl, hb⟩ := hrel
    go_wp2
    go_ret
    exact ⟨rfl, (by repeat (first | with_reducible exact Below.refl _ _ | with_reducible assumption | with_reducible refine ch_alloc ?_ _ | with_reducible refine Below.drew ?_ | with_reducible refine below_draws _ ?_ | (with_reducible refine Below.setCell ?_ ?_ _; rotate_left; focus (first | with_reducible exact Nat.le_refl _ | (simp; done) | (simp; omega) | (simp at *; omega))) | with_reducible refine ch_trans ?_ (by with_reducible assumption)))⟩
set_option maxRecDepth 100000 in
theorem heldValS_nil (k : Nat) (w : World) : Calls Try.prog 27 #[.slice none 0 0, .int .i64 k] w fun e w' => e = .returned (.int .i64 k) ∧ Below w.heap.size w w' := by
  go_enter Try.func27, Try.ntmps27
  go_wp2
  go_loopw [1, 5] (fun q i wr => i = .int .i64 0 ∧ q = .int .i64 (k : Int) ∧ Below w.heap.size w wr) (fun _ _ _ => 0)
  case atStart => exact ⟨rfl, rfl, (by repeat (first | with_reducible exact Below.refl _ _ | with_reducible assumption | with_reducible refine ch_alloc ?_ _ | with_reducible refine Below.drew ?_ | with_reducible refine below_draws _ ?_ | (with_reducible refine Below.setCell ?_ ?_ _; rotate_left; focus (first | with_reducible exact Nat.le_refl _ | (simp; done) | (simp; omega) | (simp at *; omega))) | with_reducible refine ch_trans ?_ (by with_reducible assumption)))⟩
  case round =>
    obtain ⟨rfl, rfl, hb⟩ := hrel
    go_wp2
    go_ret
    exact ⟨rfl, (by repeat (first | with_reducible exact Below.refl _ _ | with_reducible assumption | with_reducible refine ch_alloc ?_ _ | with_reducible refine Below.drew ?_ | with_reducible refine below_draws _ ?_ | (with_reducible refine Below.setCell ?_ ?_ _; rotate_left; focus (first | with_reducible exact Nat.le_refl _ | (simp; done) | (simp; omega) | (simp at *; omega))) | with_reducible refine ch_trans ?_ (by with_reducible assumption)))⟩
theorem markValS_got {w : World} {B : Nat} {T : TypeId} {v : Value} {xs : List (Array Value)} (h : Got w B T 3 v xs) (hl : xs.length ≤ 1048576) (k : Nat) (hk : k ≤ 8000000000000000000) :
    Calls Try.prog 22 #[v, .int .i64 k] w fun e w' => e = .returned (.int .i64 ((k + xs.length * 3 : Nat) : Int)) ∧ Turns (fun c => B ≤ c) w w' ∧ Held w' v k xs.length := by
  obtain ⟨h0, h1, h2⟩ := h
  rcases h2 with ⟨rfl, hn⟩ | ⟨g, cap, cur, rfl, hb, hg, hc1, hc2, hs, ht⟩
  · refine (markValS_nil k w).mono fun e w' ⟨he, hb⟩ => ⟨?_, Turns.below (Turns.refl _ _) hb, Or.inl ⟨rfl, hn⟩⟩
    rw [he, hn]; simp
  · have hr : w.rowIs g T (cap * 3) (fun i => cur.getD i default) := ⟨cur, hg, hs, fun i hi => by simp [Array.getD, hs, hi]⟩
    refine (markValS_any g xs.length cap (cap * 3) T _ k w hr (Nat.mul_le_mul_right _ hc1) hl hk).mono fun e w' ⟨he, hT, hR⟩ => ⟨he, hT.mono fun c hc => by omega, Or.inr ⟨g, cap, cap * 3, T, _, rfl, hR, Nat.mul_le_mul_right _ hc1, fun i hi => by simp [hi]⟩⟩
theorem heldValS_held {w : World} {v : Value} {k n : Nat} (h : Held w v k n) (hl : n ≤ 1048576) (hk : k ≤ 8000000000000000000) :
    Calls Try.prog 27 #[v, .int .i64 k] w fun e w' => e = .returned (.int .i64 ((k + n * 3 : Nat) : Int)) ∧ Below w.heap.size w w' := by
  rcases h with ⟨rfl, hn⟩ | ⟨b, cap, m, T, f, rfl, h1, h2, h3⟩
  · refine (heldValS_nil k w).mono fun e w' ⟨he, hb⟩ => ⟨?_, hb⟩
    rw [he, hn]; simp
  · exact heldValS_any b n cap m T f k w h1 h2 hl hk h3
theorem Fill.rowIs {w : World} {B : Nat} {T : TypeId} {z n : Nat} {xs : List (Array Value)} (h : Fill w B T z n xs) : ∃ f, w.rowIs B T (n * z) f := by
  obtain ⟨_, _, f, hr, _⟩ := h; exact ⟨f, hr⟩
end Go.Proofs.Ytiijahoheajppaa

namespace Go.Proofs.Ytiijahoheajppaa
open Go.ChangeShapes Go.WideShapes Go.ChangeAt Go.RowKit

theorem add_flat (b off j : Nat) : (⟨b, off, none⟩ : Addr).add j = ⟨b, off + j, none⟩ := by unfold Addr.add; by_cases hj : j = 0 <;> simp [hj]
theorem RowAt.news {w : World} {b off z : Nat} {ys : List (Array Value)} (h : RowAt w (some ⟨b, off, none⟩) z ys) (hz : 0 < z) (j : Nat) (u : Value) (hj : (ys.flatMap Array.toList)[j]? = some u) : w.cell? ((⟨b, off, none⟩ : Addr).add j) = some u := by
  obtain ⟨h0, h⟩ := h
  have hlt : j < ys.length * z := by
    have := (List.getElem?_eq_some_iff.1 hj).1
    rwa [flat_len ys h0] at this
  rcases h with h | ⟨b', off', e, h⟩
  · subst h; simp at hlt
  · cases e
    have hi : j / z < ys.length := Nat.div_lt_of_lt_mul (by rwa [Nat.mul_comm])
    have hr : j % z < z := Nat.mod_lt _ hz
    have hd : j / z * z + j % z = j := by rw [Nat.mul_comm]; exact Nat.div_add_mod j z
    have h1 := h (j / z) hi (j % z) hr
    have h2 := flat_at ys h0 (j / z) hi (j % z) hr
    rw [hd, hj] at h2
    rw [add_flat, h2, ← h1, Nat.add_assoc, hd]

section
variable {P : Program} {w : World} {t T : TypeId} {zv : Value} {z bytes : Nat}
/-- Some elements behind those of a row of the call's own. -/
theorem app_all (ht : P.underlying t = some (.slice T)) (hinfo : (P.info? T).map (fun i => (i.zero, i.size, i.bytes)) = some (some zv, z, bytes)) (hzs : zv.cells.size = z) (hsz : 0 < z) (hby : bytes ≤ 1000)
    {B : Nat} {v : Value} {xs : List (Array Value)} (hown : Got w B T z v xs) {b off c : Nat} {ys : List (Array Value)} (hy : RowAt w (some ⟨b, off, none⟩) z ys) (h1 : ∀ x ∈ ys, ∀ u ∈ x.toList, u.oneCell' = true) (hlen : xs.length + ys.length < 1000000000) (hB : B ≤ w.heap.size) (ty : TypeId) :
    ∃ v' w', (Builtin.append_ #[t, t] ty #[v, .slice (some ⟨b, off, none⟩) ys.length c]).run P w = .ok v' w' ∧ Got w' B T z v' (xs ++ ys) ∧ Below B w w' ∧ Turns (fun c => v.ownBlock = some c) w w' := by
  obtain ⟨i, hi, hzz⟩ := Option.map_eq_some_iff.1 hinfo
  simp only [Prod.mk.injEq] at hzz
  obtain ⟨hz0, hz1, hz2⟩ := hzz
  obtain ⟨v', w', hr, h2, h3, _⟩ := run_append_own_wide (P := P) w B t ty T i zv z bytes ht hi hz0 hz1 hz2 hzs hsz v xs.length (xs.flatMap Array.toList) hown.2 ⟨b, off, none⟩ ys.length c (ys.flatMap Array.toList) (flat_len ys hy.1) (hy.news hsz) (fun u hu => by
      obtain ⟨x, hx, hu⟩ := List.mem_flatMap.1 hu
      exact h1 x hx u hu) (by unfold maxLen; omega) (by
      have : ((xs.length + ys.length) + (xs.length + ys.length) / 4 + 192) * bytes ≤ 2000000000 * 1000 := Nat.mul_le_mul (by omega) hby
      omega) hB
  refine ⟨v', w', hr, ⟨fun y hy' => ?_, ?_⟩, Below.grown (Below.refl _ _) h3 hB (fun k hk => (World.ownsRow.lt hown.2 k hk).1), ⟨h3.os, h3.tape, h3.output, h3.size, fun c hc hn => h3.block c hc fun e => hn e.symm⟩⟩
  · rcases List.mem_append.1 hy' with hy' | hy'
    · exact hown.1 y hy'
    · exact hy.1 y hy'
  · rw [List.flatMap_append, List.length_append]
    exact h2
theorem Got.empty (w : World) (T : TypeId) (z : Nat) : Got (w.alloc (.cells #[] T)) w.heap.size T z (.slice (some ⟨w.heap.size, 0, none⟩) 0 0) [] :=
  ⟨fun x h => by simp at h, by simp, Or.inr ⟨_, 0, #[], rfl, Nat.le_refl _, Own.new w T #[], Nat.le_refl _, Nat.zero_le _, by simp, by simp⟩⟩
theorem Got.emptyAt (w : World) (T : TypeId) (z : Nat) {n : Nat} (h : w.heap.size = n) : Got (w.alloc (.cells #[] T)) n T z (.slice (some ⟨n, 0, none⟩) 0 0) [] := h ▸ Got.empty w T z
variable {ops : Array Oper} {rest : List Oper} {o : Oper} {a : Act} {Q : Exit → Act → World → Prop}
theorem app_lot (hgd : o.guard = none) (s y : Operand) (ho : o.op = .call { callee := .builtin .append, args := #[s, y], argTypes := #[t, t] })
    (ht : P.underlying t = some (.slice T)) (hinfo : (P.info? T).map (fun i => (i.zero, i.size, i.bytes)) = some (some zv, z, bytes)) (hzs : zv.cells.size = z) (hsz : 0 < z) (hby : bytes ≤ 1000)
    (B : Nat) (v : Value) (xs : List (Array Value)) (hs : a.eval s = v) (hown : Got w B T z v xs) (b off c : Nat) (ys : List (Array Value)) (n : Nat) (hn : n = ys.length) (hy : a.eval y = .slice (some ⟨b, off, none⟩) n c) (hrow : RowAt w (some ⟨b, off, none⟩) z ys) (h1 : ∀ x ∈ ys, ∀ u ∈ x.toList, u.oneCell' = true) (hlen : xs.length + ys.length < 1000000000) (hB : B ≤ w.heap.size)
    (h : ∀ v' w', Got w' B T z v' (xs ++ ys) → Below B w w' → wpList P ops Q rest (a.put o.dst v') w') : wpList P ops Q (o :: rest) a w := by
  subst hn
  obtain ⟨v', w', hr, h2, h3, _⟩ := app_all ht hinfo hzs hsz hby hown hrow h1 hlen hB (c := c) o.type
  refine wpList_plain hgd fun _ hK => ?_
  unfold Oper.wp execOp
  simp only [ho, resolve, invoke, builtin, Sem.run_bind, Sem.run_pure, Result.andThen_ok, List.map_toArray, List.map_cons, List.map_nil, hs, hy, hr]
  exact hK _ _ (h v' w' h2 h3)
theorem Loc.row1 {w : World} {b : Nat} {x : Array Value} (h : Loc w b x) {z : Nat} (hz : x.size = z) : RowAt w (some ⟨b, 0, none⟩) z [x] := by
  refine ⟨fun y hy => by simp at hy; subst hy; exact hz, Or.inr ⟨b, 0, rfl, fun i hi j hj => ?_⟩⟩
  simp at hi
  subst hi
  simp only [Nat.zero_mul, Nat.zero_add, List.getElem_cons_zero]
  rw [h j (by omega), Array.getElem?_eq_getElem (by omega)]
/-- One element behind those of a row of the call's own; nothing else turns. -/
theorem app_turn (hgd : o.guard = none) (s y : Operand) (ho : o.op = .call { callee := .builtin .append, args := #[s, y], argTypes := #[t, t] })
    (ht : P.underlying t = some (.slice T)) (hinfo : (P.info? T).map (fun i => (i.zero, i.size, i.bytes)) = some (some zv, z, bytes)) (hzs : zv.cells.size = z) (hsz : 0 < z) (hby : bytes ≤ 1000)
    (B : Nat) (v : Value) (xs : List (Array Value)) (hs : a.eval s = v) (hown : Got w B T z v xs) (b m : Nat) (x : Array Value) (hy : a.eval y = .slice (some ⟨b, 0, none⟩) 1 m) (hx : Loc w b x) (hxz : x.size = z) (h1 : ∀ u ∈ x.toList, u.oneCell' = true) (hlen : xs.length < 900000000) (hB : B ≤ w.heap.size)
    (h : ∀ v' w', Got w' B T z v' (xs ++ [x]) → Below B w w' → Turns (fun c => v.ownBlock = some c) w w' → wpList P ops Q rest (a.put o.dst v') w') : wpList P ops Q (o :: rest) a w := by
  obtain ⟨v', w', hr, h2, h3, h4⟩ := app_all ht hinfo hzs hsz hby hown (hx.row1 hxz) (fun q hq u hu => by simp at hq; subst hq; exact h1 u hu) (by simp; omega) hB (c := m) o.type
  refine wpList_plain hgd fun _ hK => ?_
  unfold Oper.wp execOp
  simp only [List.length_cons, List.length_nil, Nat.zero_add] at hr
  simp only [ho, resolve, invoke, builtin, Sem.run_bind, Sem.run_pure, Result.andThen_ok, List.map_toArray, List.map_cons, List.map_nil, hs, hy, hr]
  exact hK _ _ (h v' w' h2 h3 h4)
end
theorem vals_one (vs : List Vc) : ∀ x ∈ vs.map Vc.cells, ∀ u ∈ x.toList, u.oneCell' = true := fun x hx u hu => by
  obtain ⟨c, _, rfl⟩ := List.mem_map.1 hx
  exact val_one c u hu

theorem notNil (b off n p : Nat) (w : World) : (binOp .eql 39 (.slice (some ⟨b, off, none⟩) n p) (.slice none 0 0)).run Try.prog w = .ok (.bool false) w := by kernel_rfl

end Go.Proofs.Ytiijahoheajppaa
