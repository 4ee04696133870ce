/- append to a row of the call's own: where it lies afterwards; rows shortened in place. -/
import Derived.Test.YtmcjchaokpcomaaCq
import Derived.Test.YtmcjchaokpcomaaFl
namespace Go.Proofs.Ytmcjchaokpcomaa
open Go.ChangeShapes Go.WideShapes Go.ChangeAt Go.RowKit

/-- It lies where v lay, or in a block that was not there. -/
def Lies (w : World) (v v' : Value) : Prop := ∀ c, v'.ownBlock = some c → v.ownBlock = some c ∨ w.heap.size ≤ c
section
variable {P : Program} {w : World} {t T : TypeId} {zv : Value} {z bytes : Nat}
theorem app_keep (ht : P.underlying t = some (.slice T)) (hinfo : (P.info? T).map (fun i => (i.zero, i.size, i.bytes)) = some (some zv, z, bytes)) (hzs : zv.cells.size = z) (hsz : 0 < z) (hby : bytes ≤ 1000)
    {B : Nat} {v : Value} {xs : List (Array Value)} (hown : Got w B T z v xs) {b off c : Nat} {ys : List (Array Value)} (hy : RowAt w (some ⟨b, off, none⟩) z ys) (h1 : ∀ x ∈ ys, ∀ u ∈ x.toList, u.oneCell' = true) (hlen : xs.length + ys.length < 1000000000) (hB : B ≤ w.heap.size) (ty : TypeId) :
    ∃ v' w', (Builtin.append_ #[t, t] ty #[v, .slice (some ⟨b, off, none⟩) ys.length c]).run P w = .ok v' w' ∧ Got w' B T z v' (xs ++ ys) ∧ Below B w w' ∧ Turns (fun c => v.ownBlock = some c) w w' ∧ Lies w v v' := by
  obtain ⟨v', w', hr, h2, h3, h4⟩ := app_all ht hinfo hzs hsz hby hown hy h1 hlen hB (c := c) ty
  refine ⟨v', w', hr, h2, h3, h4, ?_⟩
  rcases hown.2.2 with ⟨rfl, hn⟩ | ⟨g, cap, cur, rfl, hb, hg, hc1, hc2, hs, htk⟩
  · obtain rfl := List.length_eq_zero_iff.1 hn
    obtain ⟨v2, w2, hr2, h22, _⟩ := app_all ht hinfo hzs hsz hby (Got.nil w w.heap.size T z) hy h1 hlen (Nat.le_refl _) (c := c) ty
    rw [hr] at hr2
    cases hr2
    exact fun k hk => Or.inr (h22.own hk)
  · obtain ⟨i, hi, hzz⟩ := Option.map_eq_some_iff.1 hinfo
    simp only [Prod.mk.injEq] at hzz
    obtain ⟨hz0, hz1, hz2⟩ := hzz
    have hl : (ys.flatMap Array.toList).length = ys.length * i.size := by rw [hz1]; exact flat_len ys hy.1
    have h1' : ∀ u ∈ ys.flatMap Array.toList, u.oneCell' = true := fun u hu => by
      obtain ⟨x, hx, hu⟩ := List.mem_flatMap.1 hu
      exact h1 x hx u hu
    by_cases hroom : xs.length + ys.length ≤ cap
    · have hfit : xs.length * i.size + (ys.flatMap Array.toList).length ≤ cur.size := by
        rw [hl, hz1, hs, ← Nat.add_mul]; exact Nat.mul_le_mul_right _ hroom
      have hr2 := Go.run_append_room (P := P) w t ty T i ht hi g xs.length cap cur hg ⟨b, off, none⟩ ys.length c _ hl (hy.news hsz) h1' hroom hfit
      rw [hr] at hr2
      cases hr2
      exact fun k hk => Or.inl (by simpa [Value.ownBlock] using hk)
    · have holds : ∀ j u, (xs.flatMap Array.toList)[j]? = some u → w.cell? ((⟨g, 0, none⟩ : Addr).add j) = some u := hown.2.cells (g := g) rfl
      have hr2 := Go.run_append_grow (P := P) w t ty T i zv ht hi hz0 ⟨g, 0, none⟩ xs.length cap (xs.flatMap Array.toList) (by rw [hz1]; exact flat_len xs hown.1) holds ⟨b, off, none⟩ ys.length c _ hl (hy.news hsz) (by omega) (by omega) (growslice_fits_wide (by omega) (by
        have : ((xs.length + ys.length) + (xs.length + ys.length) / 4 + 192) * i.bytes ≤ 2000000000 * 1000 := Nat.mul_le_mul (by omega) (by omega)
        omega))
      rw [hr] at hr2
      cases hr2
      exact fun k hk => Or.inr (by simp [Value.ownBlock] at hk; omega)
theorem app_stepK {ops : Array Oper} {o : Oper} {a : Act} {Q : Exit → Act → World → Prop} {K : Act → World → Prop} {E : Prop} (hgd : o.guard = none) (s y : Operand) (ho : o.op = .call { callee := .builtin .append, args := #[s, y], argTypes := #[t, t] })
    (ht : P.underlying t = some (.slice T)) (hinfo : (P.info? T).map (fun i => (i.zero, i.size, i.bytes)) = some (some zv, z, bytes)) (hzs : zv.cells.size = z) (hsz : 0 < z) (hby : bytes ≤ 1000)
    (B : Nat) (v : Value) (xs : List (Array Value)) (hs : a.eval s = v) (hown : Got w B T z v xs) (b m : Nat) (x : Array Value) (hy : a.eval y = .slice (some ⟨b, 0, none⟩) 1 m) (hx : Loc w b x) (hxz : x.size = z) (h1 : ∀ u ∈ x.toList, u.oneCell' = true) (hlen : xs.length < 900000000) (hB : B ≤ w.heap.size)
    (h : ∀ v' w', Got w' B T z v' (xs ++ [x]) → Below B w w' → Turns (fun c => v.ownBlock = some c) w w' → Lies w v v' → K (a.put o.dst v') w') : if Region.wanted o (yielded ops a.tmps) = true then Oper.wp P o a w K Q else E := by
  have hw : Region.wanted o (yielded ops a.tmps) = true := by simp [Region.wanted, hgd]
  rw [if_pos hw]
  obtain ⟨v', w', hr, h2, h3, h4, h5⟩ := app_keep ht hinfo hzs hsz hby hown (hx.row1 hxz) (fun q hq u hu => by simp at hq; subst hq; exact h1 u hu) (by simp; omega) hB (c := m) o.type
  unfold Oper.wp execOp
  simp only [List.length_cons, List.length_nil, Nat.zero_add] at hr
  simp only [ho, resolve, invoke, builtin, Sem.run_bind, Sem.run_pure, Result.andThen_ok, List.map_toArray, List.map_cons, List.map_nil, hs, hy, hr]
  exact h v' w' h2 h3 h4 h5
theorem app_turnK {ops : Array Oper} {rest : List Oper} {o : Oper} {a : Act} {Q : Exit → Act → World → Prop} (hgd : o.guard = none) (s y : Operand) (ho : o.op = .call { callee := .builtin .append, args := #[s, y], argTypes := #[t, t] })
    (ht : P.underlying t = some (.slice T)) (hinfo : (P.info? T).map (fun i => (i.zero, i.size, i.bytes)) = some (some zv, z, bytes)) (hzs : zv.cells.size = z) (hsz : 0 < z) (hby : bytes ≤ 1000)
    (B : Nat) (v : Value) (xs : List (Array Value)) (hs : a.eval s = v) (hown : Got w B T z v xs) (b m : Nat) (x : Array Value) (hy : a.eval y = .slice (some ⟨b, 0, none⟩) 1 m) (hx : Loc w b x) (hxz : x.size = z) (h1 : ∀ u ∈ x.toList, u.oneCell' = true) (hlen : xs.length < 900000000) (hB : B ≤ w.heap.size)
    (h : ∀ v' w', Got w' B T z v' (xs ++ [x]) → Below B w w' → Turns (fun c => v.ownBlock = some c) w w' → Lies w v v' → wpList P ops Q rest (a.put o.dst v') w') : wpList P ops Q (o :: rest) a w := by
  obtain ⟨v', w', hr, h2, h3, h4, h5⟩ := app_keep ht hinfo hzs hsz hby hown (hx.row1 hxz) (fun q hq u hu => by simp at hq; subst hq; exact h1 u hu) (by simp; omega) hB (c := m) o.type
  refine wpList_plain hgd fun _ hK => ?_
  unfold Oper.wp execOp
  simp only [List.length_cons, List.length_nil, Nat.zero_add] at hr
  simp only [ho, resolve, invoke, builtin, Sem.run_bind, Sem.run_pure, Result.andThen_ok, List.map_toArray, List.map_cons, List.map_nil, hs, hy, hr]
  exact hK _ _ (h v' w' h2 h3 h4 h5)
end
/-- One cell of a row of the call's own laid anew. -/
theorem Got.poke {w : World} {B : Nat} {T : TypeId} {z : Nat} {a : Option Addr} {n cap : Nat} {xs : List (Array Value)} (h : Got w B T z (.slice a n cap) xs) (i j : Nat) (hi : i < xs.length) (hj : j < z) (u : Value) :
    ∃ g, a = some ⟨g, 0, none⟩ ∧ B ≤ g ∧ w.cell? ⟨g, i * z + j, none⟩ = xs[i][j]? ∧ w.frozen? ⟨g, i * z + j, none⟩ = false ∧ Got (w.setCell ⟨g, i * z + j, none⟩ u) B T z (.slice a n cap) (xs.set i (xs[i].setIfInBounds j u)) := by
  obtain ⟨hz, hlen, hh⟩ := h
  rcases hh with ⟨e, hn⟩ | ⟨g, cap', cur, e, hb, hg, hc1, hc2, hs, htk⟩
  · omega
  cases e
  have hlt : i * z + j < xs.length * z := by
    have : (i + 1) * z ≤ xs.length * z := Nat.mul_le_mul_right _ (by omega)
    rw [Nat.add_mul, Nat.one_mul] at this
    omega
  have hle : xs.length * z ≤ cur.size := by rw [hs]; exact Nat.mul_le_mul_right _ hc1
  have ho : Own w g T cur := hg
  have hc : w.cell? ⟨g, i * z + j, none⟩ = xs[i][j]? := by
    have h1 := ho.loc (i * z + j) (by omega)
    rw [h1, ← flat_at xs hz i hi j hj, ← htk, List.getElem?_take, if_pos hlt]
    simp
  refine ⟨g, rfl, hb, hc, ho.frozen _, ?_, ?_, Or.inr ⟨g, cap, cur.setIfInBounds (i * z + j) u, by simp, hb, ho.set _ u, by simpa using hc1, hc2, by simpa using hs, ?_⟩⟩
  · intro x hx
    rcases List.mem_or_eq_of_mem_set hx with hx | hx
    · exact hz x hx
    · subst hx; simpa using hz _ (List.getElem_mem hi)
  · rw [flat_len (z := z) _ (fun x hx => by
      rcases List.mem_or_eq_of_mem_set hx with hx | hx
      · exact hz x hx
      · subst hx; simpa using hz _ (List.getElem_mem hi))]
  · have hz' : ∀ x ∈ xs.set i (xs[i].setIfInBounds j u), x.size = z := fun x hx => by
      rcases List.mem_or_eq_of_mem_set hx with hx | hx
      · exact hz x hx
      · subst hx; simpa using hz _ (List.getElem_mem hi)
    have hz0 : 0 < z := by omega
    apply List.ext_getElem?
    intro p
    rw [List.length_set]
    by_cases hp : p < xs.length * z
    · have hpi : p / z < xs.length := Nat.div_lt_of_lt_mul (by rwa [Nat.mul_comm])
      have hpr : p % z < z := Nat.mod_lt _ hz0
      have hd : p / z * z + p % z = p := by rw [Nat.mul_comm]; exact Nat.div_add_mod p z
      have e1 := flat_at _ hz' (p / z) (by simpa using hpi) (p % z) hpr
      have e2 := flat_at xs hz (p / z) hpi (p % z) hpr
      rw [hd] at e1 e2
      rw [← htk, List.getElem?_take, if_pos hp] at e2
      rw [e1, List.getElem?_take, if_pos hp, Array.getElem?_toList, Array.getElem?_setIfInBounds]
      rw [Array.getElem?_toList] at e2
      by_cases hpq : i * z + j = p
      · have hi' : p / z = i := by rw [← hpq, Nat.mul_comm, Nat.mul_add_div hz0, Nat.div_eq_of_lt hj, Nat.add_zero]
        have hj' : p % z = j := by rw [← hpq, Nat.mul_comm, Nat.mul_add_mod, Nat.mod_eq_of_lt hj]
        rw [if_pos hpq, if_pos (by omega)]
        simp only [hi', hj', List.getElem_set_self]
        have := hz _ (List.getElem_mem hi)
        simp [this, hj]
      · rw [if_neg hpq, e2]
        by_cases hi' : p / z = i
        · have hj' : p % z ≠ j := fun e => hpq (by rw [← hi', ← e]; exact hd)
          simp only [hi', List.getElem_set_self]
          rw [Array.getElem?_setIfInBounds, if_neg (fun e => hj' e.symm)]
        · simp only [List.getElem_set_ne (fun e => hi' e.symm)]
    · rw [List.getElem?_eq_none (by simp; omega), List.getElem?_eq_none (by rw [flat_len _ hz']; simp; omega)]
theorem Own.at0 {w : World} {b : Nat} {T : TypeId} {pc : Array Value} {v : Value} (h : Own w b T pc) (hv : pc[0]? = some v) : w.cell? ⟨b, 0, none⟩ = some v := by
  obtain ⟨h0, e⟩ := Array.getElem?_eq_some_iff.1 hv
  rw [h.loc 0 h0, e]
end Go.Proofs.Ytmcjchaokpcomaa
