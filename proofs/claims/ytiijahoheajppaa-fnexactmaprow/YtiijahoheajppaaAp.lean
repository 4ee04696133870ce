/- Rows that a call gathers by append, elements of some cells each. -/
import Derived.Test.YtiijahoheajppaaTb
import Derived.Deep.DeepAppendWide
import Derived.Deep.RegionLaw
namespace Go.Proofs.Ytiijahoheajppaa
open Go.ChangeShapes Go.WideShapes Go.ChangeAt Go.RowKit

theorem flat_at {z : Nat} : ∀ (xs : List (Array Value)), (∀ x ∈ xs, x.size = z) → ∀ i (h : i < xs.length) j, j < z → (xs.flatMap Array.toList)[i * z + j]? = xs[i][j]?
  | [], _, i, h, _, _ => absurd h (Nat.not_lt_zero _)
  | x :: r, hz, 0, _, j, hj => by
    have hx := hz x (by simp)
    rw [List.flatMap_cons, Nat.zero_mul, Nat.zero_add, List.getElem?_append_left (by simp [hx]; omega)]
    simp
  | x :: r, hz, i + 1, h, j, hj => by
    have hx := hz x (by simp)
    have ih := flat_at r (fun y hy => hz y (by simp [hy])) i (by simpa using h) j hj
    rw [List.flatMap_cons, List.getElem?_append_right (by simp [hx, Nat.add_mul]; omega)]
    have : (i + 1) * z + j - x.toList.length = i * z + j := by simp [hx, Nat.add_mul]; omega
    rw [this, ih]
    simp
theorem flat_len {z : Nat} : ∀ (xs : List (Array Value)), (∀ x ∈ xs, x.size = z) → (xs.flatMap Array.toList).length = xs.length * z
  | [], _ => by simp
  | x :: r, hz => by
    have hx := hz x (by simp)
    have ih := flat_len r fun y hy => hz y (by simp [hy])
    rw [List.flatMap_cons, List.length_append, ih, List.length_cons, Nat.add_mul]
    simp [hx]; omega

/-- A row of the call's own, from block B on; xs are its elements. -/
def Got (w : World) (B : Nat) (T : TypeId) (z : Nat) (v : Value) (xs : List (Array Value)) : Prop := (∀ x ∈ xs, x.size = z) ∧ w.ownsRow B T z v xs.length (xs.flatMap Array.toList)
theorem Got.nil (w : World) (B : Nat) (T : TypeId) (z : Nat) : Got w B T z (.slice none 0 0) [] := ⟨fun x h => by simp at h, World.ownsRow_nil _ _ _ _⟩
theorem Got.on {w w' : World} {B : Nat} {T : TypeId} {z : Nat} {v : Value} {xs : List (Array Value)} (h : Got w B T z v xs) (k : Below w.heap.size w w') : Got w' B T z v xs := by
  obtain ⟨h0, h1, h2⟩ := h
  refine ⟨h0, h1, ?_⟩
  rcases h2 with h2 | ⟨g, cap, cur, e, hb, hg, r⟩
  · exact Or.inl h2
  · exact Or.inr ⟨g, cap, cur, e, hb, (k.block g (Array.getElem?_eq_some_iff.1 hg).1).trans hg, r⟩
theorem Got.mono {w : World} {B B' : Nat} {T : TypeId} {z : Nat} {v : Value} {xs : List (Array Value)} (h : Got w B T z v xs) (hB : B' ≤ B) : Got w B' T z v xs := by
  obtain ⟨h0, h1, h2⟩ := h
  refine ⟨h0, h1, ?_⟩
  rcases h2 with h2 | ⟨g, cap, cur, e, hb, r⟩
  · exact Or.inl h2
  · exact Or.inr ⟨g, cap, cur, e, by omega, r⟩
theorem Got.row {w : World} {B : Nat} {T : TypeId} {z : Nat} {v : Value} {xs : List (Array Value)} (h : Got w B T z v xs) : ∃ a cap, v = .slice a xs.length cap ∧ xs.length ≤ cap ∧ cap ≤ maxLen ∧ RowAt w a z xs ∧ From v B := by
  obtain ⟨h0, h1, h2⟩ := h
  rcases h2 with ⟨rfl, hn⟩ | ⟨g, cap, cur, rfl, hb, hg, hc1, hc2, hs, ht⟩
  · obtain rfl := List.length_eq_zero_iff.1 hn
    exact ⟨.none, 0, rfl, Nat.le_refl _, Nat.zero_le _, RowAt.nil _ _ _, fun a n c e => by cases e⟩
  · refine ⟨some ⟨g, 0, none⟩, cap, rfl, hc1, hc2, ⟨h0, Or.inr ⟨g, 0, rfl, fun i hi j hj => ?_⟩⟩, fun a n c e => by cases e; exact hb⟩
    have hlt : i * z + j < xs.length * z := by
      have : (i + 1) * z ≤ xs.length * z := Nat.mul_le_mul_right _ (by omega)
      rw [Nat.add_mul, Nat.one_mul] at this
      omega
    rw [← flat_at xs h0 i hi j hj, ← ht, List.getElem?_take, if_pos hlt, Nat.zero_add]
    unfold World.cell?
    simp only [hg]
    simp
theorem Got.lit {w : World} {B : Nat} {T : TypeId} {z : Nat} {v : Value} {xs : List (Array Value)} (h : Got w B T z v xs) : ∃ a cap, v = .slice a xs.length cap ∧ Got w B T z (.slice a xs.length cap) xs := by
  obtain ⟨a, cap, e, _⟩ := h.row
  exact ⟨a, cap, e, e ▸ h⟩

theorem Got.lit2 {w : World} {B : Nat} {T : TypeId} {z : Nat} {v : Value} {xs : List (Array Value)} (h : Got w B T z v xs) : ∃ a n cap, v = .slice a n cap ∧ Got w B T z (.slice a n cap) xs := by
  obtain ⟨a, cap, e, _⟩ := h.row
  exact ⟨a, _, cap, e, e ▸ h⟩

section
variable {P : Program} {w : World} {ops : Array Oper} {rest : List Oper} {o : Oper} {a : Act} {Q : Exit → Act → World → Prop} {t T : TypeId} {z bytes : Nat} {zv : Value}
theorem app_run (ht : P.underlying t = some (.slice T)) (hinfo : (P.info? T).map (fun i => (i.zero, i.size, i.bytes)) = some (some zv, z, bytes)) (hzs : zv.cells.size = z) (hsz : 0 < z) (hby : bytes ≤ 1000)
    {B : Nat} {v : Value} {xs : List (Array Value)} (hown : Got w B T z v xs) {b m : Nat} {x : Array Value} (hx : Loc w b x) (hxz : x.size = z) (h1 : ∀ u ∈ x.toList, u.oneCell' = true) (hlen : xs.length < 1000000000) (hB : B ≤ w.heap.size) (ty : TypeId) :
    ∃ v' w', (Builtin.append_ #[t, t] ty #[v, .slice (some ⟨b, 0, none⟩) 1 m]).run P w = .ok v' w' ∧ Got w' B T z v' (xs ++ [x]) ∧ Below B w w' := by
  obtain ⟨i, hi, hzz⟩ := Option.map_eq_some_iff.1 hinfo
  simp only [Prod.mk.injEq] at hzz
  obtain ⟨hz0, hz1, hz2⟩ := hzz
  obtain ⟨v', w', hr, h2, h3, _⟩ := run_append_own_wide (P := P) w B t ty T i zv z bytes ht hi hz0 hz1 hz2 hzs hsz v xs.length (xs.flatMap Array.toList) hown.2 ⟨b, 0, none⟩ 1 m x.toList (by simp [hxz]) (fun j u hj => by
    have hjl : j < x.size := by
      have := (List.getElem?_eq_some_iff.1 hj).1
      simpa using this
    have e : (⟨b, 0, none⟩ : Addr).add j = ⟨b, j, none⟩ := by unfold Addr.add; by_cases hj0 : j = 0 <;> simp [hj0]
    rw [e, hx j hjl]
    have := (List.getElem?_eq_some_iff.1 hj).2
    simpa using this) h1 (by unfold maxLen; omega) (by
      have : ((xs.length + 1) + (xs.length + 1) / 4 + 192) * bytes ≤ 2000000000 * 1000 := Nat.mul_le_mul (by omega) hby
      omega) hB
  refine ⟨v', w', hr, ⟨fun y hy => ?_, ?_⟩, Below.grown (Below.refl _ _) h3 hB (fun k hk => (World.ownsRow.lt hown.2 k hk).1)⟩
  · rcases List.mem_append.1 hy with hy | hy
    · exact hown.1 y hy
    · simp at hy; subst hy; exact hxz
  · rw [List.flatMap_append, List.length_append]
    simpa using h2
theorem app_one (hgd : o.guard = none) (s y : Operand) (ho : o.op = .call { callee := .builtin .append, args := #[s, y], argTypes := #[t, t] })
    (ht : P.underlying t = some (.slice T)) (hinfo : (P.info? T).map (fun i => (i.zero, i.size, i.bytes)) = some (some zv, z, bytes)) (hzs : zv.cells.size = z) (hsz : 0 < z) (hby : bytes ≤ 1000)
    (B : Nat) (v : Value) (xs : List (Array Value)) (hs : a.eval s = v) (hown : Got w B T z v xs) (b m : Nat) (x : Array Value) (hy : a.eval y = .slice (some ⟨b, 0, none⟩) 1 m) (hx : Loc w b x) (hxz : x.size = z) (h1 : ∀ u ∈ x.toList, u.oneCell' = true) (hlen : xs.length < 1000000000) (hB : B ≤ w.heap.size)
    (h : ∀ v' w', Got w' B T z v' (xs ++ [x]) → Below B w w' → wpList P ops Q rest (a.put o.dst v') w') : wpList P ops Q (o :: rest) a w := by
  obtain ⟨v', w', hr, h2, h3⟩ := app_run ht hinfo hzs hsz hby hown hx hxz h1 hlen hB (m := m) o.type
  refine wpList_plain hgd fun _ hK => ?_
  unfold Oper.wp execOp
  simp only [ho, resolve, invoke, builtin, Sem.run_bind, Sem.run_pure, Result.andThen_ok, List.map_toArray, List.map_cons, List.map_nil, hs, hy, hr]
  exact hK _ _ (h v' w' h2 h3)
theorem app_step {K : Act → World → Prop} {E : Prop} (hgd : o.guard = none) (s y : Operand) (ho : o.op = .call { callee := .builtin .append, args := #[s, y], argTypes := #[t, t] })
    (ht : P.underlying t = some (.slice T)) (hinfo : (P.info? T).map (fun i => (i.zero, i.size, i.bytes)) = some (some zv, z, bytes)) (hzs : zv.cells.size = z) (hsz : 0 < z) (hby : bytes ≤ 1000)
    (B : Nat) (v : Value) (xs : List (Array Value)) (hs : a.eval s = v) (hown : Got w B T z v xs) (b m : Nat) (x : Array Value) (hy : a.eval y = .slice (some ⟨b, 0, none⟩) 1 m) (hx : Loc w b x) (hxz : x.size = z) (h1 : ∀ u ∈ x.toList, u.oneCell' = true) (hlen : xs.length < 1000000000) (hB : B ≤ w.heap.size)
    (h : ∀ v' w', Got w' B T z v' (xs ++ [x]) → Below B w w' → K (a.put o.dst v') w') : if Region.wanted o (yielded ops a.tmps) = true then Oper.wp P o a w K Q else E := by
  have hw : Region.wanted o (yielded ops a.tmps) = true := by simp [Region.wanted, hgd]
  rw [if_pos hw]
  obtain ⟨v', w', hr, h2, h3⟩ := app_run ht hinfo hzs hsz hby hown hx hxz h1 hlen hB (m := m) o.type
  unfold Oper.wp execOp
  simp only [ho, resolve, invoke, builtin, Sem.run_bind, Sem.run_pure, Result.andThen_ok, List.map_toArray, List.map_cons, List.map_nil, hs, hy, hr]
  exact h v' w' h2 h3
end
end Go.Proofs.Ytiijahoheajppaa
