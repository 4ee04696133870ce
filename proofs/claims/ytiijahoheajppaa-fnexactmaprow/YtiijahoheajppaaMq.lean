/- A map from texts to values: an entry struck; its entries one after the other. -/
import Derived.Test.YtiijahoheajppaaMp
import Derived.Test.YtiijahoheajppaaMark
import Derived.Maps.RangeWalk
namespace Go.Proofs.Ytiijahoheajppaa
open Go.ChangeShapes Go.WideShapes Go.ChangeAt Go.RowKit

section
variable {P : Program} {k t e : TypeId} {w w' : World} {b n r cnt : Nat} {L M : List (ByteArray × Value)}
theorem keyOf_string_is (hk : P.underlying k = some .string) {key : Value} {kl : Lit} (h : keyOf P k key = some kl) : ∃ s : ByteArray, key = .string s ∧ s.size ≤ maxLen := by
  cases key <;> simp [keyOf, hk, mapKey] at h
  exact ⟨_, rfl, by first | exact h.1 | omega⟩
theorem nodup_inj : ∀ {L : List (ByteArray × Value)}, (L.map (·.1)).Nodup → ∀ {p q}, p ∈ L → q ∈ L → p.1 = q.1 → p = q
  | [], _, p, q, hp, _, _ => by simp at hp
  | x :: L, h, p, q, hp, hq, e => by
    rw [List.map_cons, List.nodup_cons] at h
    rcases List.mem_cons.1 hp with e1 | g1
    · rcases List.mem_cons.1 hq with e2 | g2
      · rw [e1, e2]
      · rw [← e1] at h; exact absurd (List.mem_map.2 ⟨q, g2, e.symm⟩) h.1
    · rcases List.mem_cons.1 hq with e2 | g2
      · rw [← e2] at h; exact absurd (List.mem_map.2 ⟨p, g1, e⟩) h.1
      · exact nodup_inj h.2 g1 g2 e
theorem grown_turns {r : Nat} (h : w.grownBy w' (some r)) : Turns (· = r) w w' := ⟨h.os, h.tape, h.output, h.size, fun i hi hn => h.block i hi (by simpa using fun e => hn e)⟩
theorem strike_len : ∀ (L : List (ByteArray × Value)) (s : ByteArray), (L.map (·.1)).Nodup → (L.filter fun p => decide (p.1 ≠ s)).length + (if (L.any fun p => decide (p.1 = s)) then 1 else 0) = L.length
  | [], s, _ => by simp
  | p :: L, s, h => by
    rw [List.map_cons, List.nodup_cons] at h
    have ih := strike_len L s h.2
    by_cases e : p.1 = s
    · subst e
      have hn : (L.any fun q => decide (q.1 = p.1)) = false := by
        rw [List.any_eq_false]; intro q hq; have : q.1 ≠ p.1 := fun e => h.1 (List.mem_map.2 ⟨q, hq, e⟩); simpa using this
      rw [hn] at ih
      simp at ih ⊢
      exact ih
    · rw [List.filter_cons, List.any_cons, decide_eq_false e, Bool.false_or, if_pos (by simpa using e), List.length_cons, List.length_cons]
      omega
theorem strike_find (L : List (ByteArray × Value)) (s x : ByteArray) (h : x ≠ s) : (L.filter fun p => decide (p.1 ≠ s)).find? (fun p => decide (p.1 = x)) = L.find? (fun p => decide (p.1 = x)) := by
  rw [List.find?_filter]
  congr 1
  funext p
  by_cases e : p.1 = x
  · simp [e, h]
  · simp [e]
/-- 'delete(m, s)' -/
theorem MapIs.drop (h : MapIs P k w b n L) (hk : P.underlying k = some .string) (ht : P.underlying t = some (.map k e)) (hn : (L.map (·.1)).Nodup) {s : ByteArray} (hs : s.size ≤ maxLen) (ty : TypeId) :
    ∃ w', (Builtin.delete_ #[t, k] ty #[.map (some b), .string s]).run P w = .ok (.tuple #[]) w' ∧ MapIs P k w' b n (L.filter fun p => decide (p.1 ≠ s)) ∧ Turns (· = b) w w' ∧ w'.heap.size = w.heap.size := by
  obtain ⟨D, ho, h1, h2, h3⟩ := h
  obtain ⟨w', hr, ho', ht'⟩ := ho.drop (Maps.string_keyed hk) ht (WideMaps.keyOf_string_mk hk hs) ty
  have hd := ho.tidy (Maps.string_keyed hk)
  refine ⟨w', hr, ⟨_, ho', ?_, ?_, ?_⟩, ?_, ?_⟩
  · intro x
    by_cases hx : s = x
    · subst hx
      rw [show Maps.has (D.del (.string s.data.toList)) (klit s) = false from Maps.has_del_same]
      symm
      rw [List.any_eq_false]; intro p hp
      have := (List.mem_filter.1 hp).2
      simpa using this
    · rw [show Maps.has (D.del (.string s.data.toList)) (klit x) = _ from Maps.has_del_other (fun e => hx (klit_inj e).symm), h1 x, List.any_filter]
      congr 1
      funext p
      by_cases e : p.1 = x
      · simp [e]; exact fun e : x = s => hx e.symm
      · simp [e]
  · intro x p hf z
    by_cases hx : s = x
    · subst hx
      have h5 := List.mem_of_find?_eq_some hf
      have h6 := (List.mem_filter.1 h5).2
      have h7 := @List.find?_some _ (fun q : ByteArray × Value => decide (q.1 = s)) _ _ hf
      simp at h6 h7
      exact absurd h7 h6
    · rw [strike_find L s x (fun e => hx e.symm)] at hf
      rw [← h2 x p hf z]
      exact Maps.atKey_del_other (fun e => hx (klit_inj e).symm) _
  · have h4 := Maps.size_del hd (k := .string s.data.toList)
    have h5 := strike_len L s hn
    rw [show Maps.has D (.string s.data.toList) = _ from h1 s] at h4
    omega
  · exact grown_turns ht'.grown
  · obtain ⟨es, cl, es', cl', hb, rfl⟩ := ht'
    simp [ChangeMaps.setBlock]
/-- 'm[s] = v', s new -/
theorem MapIs.putT (h : MapIs P k w b n L) (hk : P.underlying k = some .string) (ht : P.underlying t = some (.map k e)) (hn : n < maxLen) {s : ByteArray} (hs : s.size ≤ maxLen) (hp : L.find? (fun p => decide (p.1 = s)) = .none) (v : Value) :
    ∃ w', (Instr.mapUpdate t (.map (some b)) (.string s) v).run P w = .ok () w' ∧ MapIs P k w' b (n + 1) (L ++ [(s, v)]) ∧ Turns (· = b) w w' ∧ w'.heap.size = w.heap.size := by
  obtain ⟨w1, hr, h1, _, h3⟩ := h.put hk ht hn hs hp v
  obtain ⟨D, ho, _⟩ := h
  obtain ⟨w', hr', _, ht'⟩ := ho.store (Maps.string_keyed hk) ht hn (WideMaps.keyOf_string_mk hk hs) (val := v) (d := .held v) (ps := []) rfl
  rw [hr] at hr'
  cases hr'
  exact ⟨w1, hr, h1, grown_turns ht'.grown, h3⟩
theorem MapIs.turned (h : MapIs P k w b n L) {S : Nat → Prop} (hb : Turns S w w') (hS : ¬ S b) : MapIs P k w' b n L := by
  obtain ⟨D, ⟨es, clock, hm, r⟩, h1⟩ := h
  exact ⟨D, ⟨es, clock, (hb.block b (Array.getElem?_eq_some_iff.1 hm).1 hS).trans hm, r⟩, h1⟩
/-- Block r goes over the map in block b: L is in the map, M is still to come. -/
def RngIs (P : Program) (k : TypeId) (w : World) (b r n : Nat) (L M : List (ByteArray × Value)) (cnt : Nat) : Prop :=
  ∃ D left, w.ranges P k rv b r n D left cnt ∧ (∀ s p, L.find? (fun p => decide (p.1 = s)) = some p → ∀ z, D.atKey (klit s) z = .held p.2) ∧ (∀ s, left (klit s) = M.any fun p => decide (p.1 = s)) ∧ ∀ p ∈ M, p ∈ L
theorem RngIs.left_eq (h : RngIs P k w b r n L M cnt) : w.rangeLeft b r = cnt := by obtain ⟨D, left, h, _⟩ := h; exact h.left_eq
theorem RngIs.on (h : RngIs P k w b r n L M cnt) {S : Nat → Prop} (hb : Turns S w w') (h1 : ¬ S b) (h2 : ¬ S r) : RngIs P k w' b r n L M cnt := by
  obtain ⟨D, left, ⟨es, clock, since, seen, c0, hm, F, hs, hD, hr, rest⟩, h'⟩ := h
  have l1 : b < w.heap.size := (Array.getElem?_eq_some_iff.1 hm).1
  have l2 : r < w.heap.size := (Array.getElem?_eq_some_iff.1 hr).1
  exact ⟨D, left, ⟨es, clock, since, seen, c0, (hb.block b l1 h1).trans hm, F, hs, hD, (hb.block r l2 h2).trans hr, rest⟩, h'⟩
theorem RngIs.below (h : RngIs P k w b r n L M cnt) {B : Nat} (hb : Below B w w') (h1 : b < B) (h2 : r < B) : RngIs P k w' b r n L M cnt := by
  obtain ⟨D, left, ⟨es, clock, since, seen, c0, hm, F, hs, hD, hr, rest⟩, h'⟩ := h
  exact ⟨D, left, ⟨es, clock, since, seen, c0, (hb.block b h1).trans hm, F, hs, hD, (hb.block r h2).trans hr, rest⟩, h'⟩
/-- 'range m' -/
theorem MapIs.range (h : MapIs P k w b n L) (hk : P.underlying k = some .string) (ht : P.underlying t = some (.map k e)) : ∃ w', (Instr.range t (.map (some b))).run P w = .ok (.pointer (some ⟨w.heap.size, 0, none⟩)) w' ∧ RngIs P k w' b w.heap.size n L L L.length ∧ Below w.heap.size w w' ∧ w'.heap.size = w.heap.size + 1 := by
  obtain ⟨D, ho, h1, h2, h3⟩ := h
  obtain ⟨w', hr, h4, h5, h6⟩ := ho.range (Maps.string_keyed hk) ht
  exact ⟨w', hr, ⟨D, _, h3 ▸ h4, h2, h1, fun p hp => hp⟩, ⟨h5.os, h5.tape, h5.output, h5.size, fun i hi => h5.block i hi (by simp)⟩, h6⟩
variable {ops : Array Oper} {rest : List Oper} {o : Oper} {a : Act} {Q : Exit → Act → World → Prop}
theorem wpList_range_map (hg : o.guard = none) (m : Operand) (t : TypeId) (hop : o.op = Op.range t m) (hk : P.underlying k = some .string) (ht : P.underlying t = some (.map k e)) (b n : Nat) (hm : a.eval m = .map (some b)) (h : MapIs P k w b n L)
    (hK : ∀ w', RngIs P k w' b w.heap.size n L L L.length → Below w.heap.size w w' → w'.heap.size = w.heap.size + 1 → wpList P ops Q rest (a.put o.dst (.pointer (some ⟨w.heap.size, 0, none⟩))) w') :
    wpList P ops Q (o :: rest) a w := by
  refine wpList_plain hg fun K' hK' => ?_
  obtain ⟨w', hrun, r1, r2, r3⟩ := h.range hk ht
  unfold Oper.wp
  simp [execOp, hop, hm, hrun, Result.andThen]
  exact hK' _ _ (hK w' r1 r2 r3)
theorem wpList_next_map (hg : o.guard = none) (it : Operand) (hop : o.op = Op.next it false) (hk : P.underlying k = some .string) (hn : (L.map (·.1)).Nodup) (hit : a.eval it = .pointer (some ⟨r, 0, none⟩)) (h : RngIs P k w b r n L M cnt)
    (hDone : M = [] → wpList P ops Q rest (a.put o.dst (.tuple #[.bool false])) w)
    (hMore : ∀ p ∈ M, ∀ (w' : World) (cnt' : Nat), RngIs P k w' b r n L (M.filter fun q => decide (q.1 ≠ p.1)) cnt' → cnt' < cnt → Turns (· = r) w w' → w'.heap.size = w.heap.size →
      (Instr.entry (.pointer (some ⟨r, 0, none⟩))).run P w' = .ok (.tuple #[.string p.1, p.2]) w' → wpList P ops Q rest (a.put o.dst (.tuple #[.bool true, .string p.1, p.2])) w') :
    wpList P ops Q (o :: rest) a w := by
  refine wpList_plain hg fun K' hK' => ?_
  unfold Oper.wp
  obtain ⟨D, left, hr, h1, h2, h3⟩ := h
  rcases hr.next (Maps.string_keyed hk) o.type with ⟨h0, hl, hrun⟩ | ⟨key, v, kl, y, w', cnt', hkey, hlk, hv, hat, hrun, hrg, hlt, hgr, hsz, hen⟩
  · simp [execOp, hop, hit, hrun, Result.andThen]
    refine hK' _ _ (hDone ?_)
    cases M with
    | nil => rfl
    | cons p M =>
      have := h2 p.1
      rw [hl] at this
      simp at this
  · obtain ⟨s, rfl, hs⟩ := keyOf_string_is hk hkey
    rw [WideMaps.keyOf_string_mk hk hs] at hkey
    cases hkey
    have hM : (M.any fun p => decide (p.1 = s)) = true := by rw [← h2 s]; exact hlk
    obtain ⟨p, hp, hps⟩ := List.any_eq_true.1 hM
    have hps : p.1 = s := by simpa using hps
    subst hps
    have hfd : L.find? (fun q => decide (q.1 = p.1)) = some p := by
      cases hq : L.find? (fun q => decide (q.1 = p.1)) with
      | none => have := List.find?_eq_none.1 hq p (h3 p hp); simp at this
      | some q =>
        have h5 := List.mem_of_find?_eq_some hq
        have h6 := @List.find?_some _ (fun q : ByteArray × Value => decide (q.1 = p.1)) _ _ hq
        have h6 : q.1 = p.1 := by simpa using h6
        rw [nodup_inj hn h5 (h3 p hp) h6]
    have hvv : v = p.2 := by
      have e1 := hat (.held v)
      rw [h1 _ _ hfd] at e1
      simp only [rv, Option.some.injEq] at hv
      subst hv
      simp at e1
      exact e1.symm
    subst hvv
    simp [execOp, hop, hit, hrun, Result.andThen]
    refine hK' _ _ (hMore p hp w' cnt' ⟨D, _, hrg, h1, fun s => ?_, fun q hq => h3 q (List.mem_filter.1 hq).1⟩ hlt (grown_turns hgr) hsz hen)
    rw [h2 s, same_key, List.any_filter, Bool.eq_iff_iff]
    simp only [Bool.and_eq_true, Bool.not_eq_true', List.any_eq_true, decide_eq_true_eq, decide_eq_false_iff_not]
    constructor
    · rintro ⟨⟨q, hq, rfl⟩, hne⟩; exact ⟨q, hq, by simpa using hne, rfl⟩
    · rintro ⟨q, hq, hne, rfl⟩; exact ⟨⟨q, hq, rfl⟩, by simpa using hne⟩
end
end Go.Proofs.Ytiijahoheajppaa
