/- A map from texts to values, told by a list of what it holds: any program. -/
import Derived.Maps.OwnSet
import Derived.Below
namespace Go.Proofs.Ytiijahoheajppaa
open Go.RowKit

/-- An element reads as itself. -/
def rv (v : Value) : Option (DataW Value × List MemPlace) := some (.held v, [])
abbrev klit (s : ByteArray) : Lit := .string s.data.toList
theorem klit_inj {a b : ByteArray} (h : klit a = klit b) : a = b := by
  have h1 : a.data.toList = b.data.toList := by injection h
  have h2 : a.data = b.data := Array.toList_inj.1 h1
  cases a; cases b; simp at h2; rw [h2]
theorem same_key (a b : ByteArray) : (klit a).sameKey (klit b) = decide (a = b) := by
  by_cases h : a = b
  · subst h; simp [Lit.sameKey]
  · rw [decide_eq_false h]; exact Maps.sameKey_ne fun e => h (klit_inj e)

/-- Block b is a map that holds just the entries of the list, no text twice. -/
def MapIs (P : Program) (k : TypeId) (w : World) (b n : Nat) (L : List (ByteArray × Value)) : Prop :=
  ∃ D, w.ownsMap P k rv b n D ∧ (∀ s, Maps.has D (klit s) = L.any fun p => decide (p.1 = s)) ∧ (∀ s p, L.find? (fun p => decide (p.1 = s)) = some p → ∀ z, D.atKey (klit s) z = .held p.2) ∧ Maps.size D = L.length

variable {P : Program} {k t e : TypeId} {w w' : World} {b n : Nat} {L : List (ByteArray × Value)}
theorem MapIs.made : MapIs P k (w.alloc (.map #[] 0)) w.heap.size 0 [] :=
  ⟨.map [], World.ownsMap_made w P k rv, fun _ => rfl, fun _ _ h => by simp at h, rfl⟩
theorem MapIs.lt (h : MapIs P k w b n L) : b < w.heap.size := by obtain ⟨D, h, _⟩ := h; exact h.lt
theorem MapIs.on (h : MapIs P k w b n L) {B : Nat} (hb : Below B w w') (hlt : b < B) : MapIs P k w' b n L := by
  obtain ⟨D, ⟨es, clock, hm, r⟩, h1⟩ := h
  exact ⟨D, ⟨es, clock, (hb.block b hlt).trans hm, r⟩, h1⟩
theorem MapIs.mono (h : MapIs P k w b n L) {m : Nat} (hm : n ≤ m) : MapIs P k w b m L := by
  obtain ⟨D, h, r⟩ := h; exact ⟨D, h.mono hm, r⟩
theorem MapIs.look_yes (h : MapIs P k w b n L) (hk : P.underlying k = some .string) (ht : P.underlying t = some (.map k e)) {z : Value} (hz : (zeroValue e).run P w = .ok z w) {s : ByteArray} (hs : s.size ≤ maxLen) {p : ByteArray × Value} (hp : L.find? (fun p => decide (p.1 = s)) = some p) :
    (Instr.lookup t (.map (some b)) (.string s) true).run P w = .ok (.tuple #[p.2, .bool true]) w := by
  obtain ⟨D, ho, h1, h2, _⟩ := h
  obtain ⟨v, ps, hr, hv⟩ := ho.look_ok (Maps.string_keyed hk) ht hz (zd := .held z) (zp := []) rfl (WideMaps.keyOf_string_mk hk hs)
  rw [h2 s p hp] at hv
  have hv' : v = p.2 := by simp [rv] at hv; exact hv.1
  rw [hr, hv', h1 s]
  have : (L.any fun p => decide (p.1 = s)) = true := by
    rw [List.any_eq_true]; exact ⟨p, List.mem_of_find?_eq_some hp, by have h := @List.find?_some _ (fun q : ByteArray × Value => decide (q.1 = s)) _ _ hp; exact h⟩
  rw [this]
theorem MapIs.look_no (h : MapIs P k w b n L) (hk : P.underlying k = some .string) (ht : P.underlying t = some (.map k e)) {z : Value} (hz : (zeroValue e).run P w = .ok z w) {s : ByteArray} (hs : s.size ≤ maxLen) (hp : L.find? (fun p => decide (p.1 = s)) = .none) :
    (Instr.lookup t (.map (some b)) (.string s) true).run P w = .ok (.tuple #[z, .bool false]) w := by
  obtain ⟨D, ho, h1, h2, _⟩ := h
  obtain ⟨v, ps, hr, hv⟩ := ho.look_ok (Maps.string_keyed hk) ht hz (zd := .held z) (zp := []) rfl (WideMaps.keyOf_string_mk hk hs)
  have hn : Maps.has D (klit s) = false := by
    rw [h1 s, List.any_eq_false]; intro p hm; have := List.find?_eq_none.1 hp p hm; simpa using this
  rw [Maps.atKey_of_not_has hn] at hv
  have hv' : v = z := by simp [rv] at hv; exact hv.1
  rw [hr, hv', hn]
theorem MapIs.len (h : MapIs P k w b n L) (ht : P.underlying t = some (.map k e)) (ty : TypeId) : (Builtin.len_ #[t] ty #[.map (some b)]).run P w = .ok (.int .i64 L.length) w := by
  obtain ⟨D, ho, _, _, hs⟩ := h
  rw [ho.len ht ty, hs]
theorem MapIs.put (h : MapIs P k w b n L) (hk : P.underlying k = some .string) (ht : P.underlying t = some (.map k e)) (hn : n < maxLen) {s : ByteArray} (hs : s.size ≤ maxLen) (hp : L.find? (fun p => decide (p.1 = s)) = .none) (v : Value) :
    ∃ w', (Instr.mapUpdate t (.map (some b)) (.string s) v).run P w = .ok () w' ∧ MapIs P k w' b (n + 1) (L ++ [(s, v)]) ∧ Below b w w' ∧ w'.heap.size = w.heap.size := by
  obtain ⟨D, ho, h1, h2, h3⟩ := h
  obtain ⟨w', hr, ho', ht'⟩ := ho.store (Maps.string_keyed hk) ht hn (WideMaps.keyOf_string_mk hk hs) (val := v) (d := .held v) (ps := []) rfl
  have hd := ho.tidy (Maps.string_keyed hk)
  have hnot : Maps.has D (klit s) = false := by
    rw [h1 s, List.any_eq_false]; intro p hm; have := List.find?_eq_none.1 hp p hm; simpa using this
  have hkey : WideAt.IsKeyLit (klit s) := trivial
  refine ⟨w', hr, ⟨_, ho', ?_, ?_, ?_⟩, ?_, ?_⟩
  · intro x
    by_cases hx : s = x
    · subst hx
      rw [show Maps.has (D.put (.string s.data.toList) (.held v)) (klit s) = true from Maps.has_put_same hd.isMap hkey _]
      simp
    · rw [show Maps.has (D.put (.string s.data.toList) (.held v)) (klit x) = _ from Maps.has_put_other (fun e => hx (klit_inj e).symm) _, h1 x]
      simp [hx]
  · intro x p hf z
    by_cases hx : s = x
    · subst hx
      rw [List.find?_append, hp] at hf
      simp at hf
      subst hf
      exact Maps.atKey_put_same hd.isMap hkey _ _
    · rw [List.find?_append] at hf
      simp [hx] at hf
      rw [← h2 x p hf z]
      exact Maps.atKey_put_other (fun e => hx (klit_inj e).symm) _ _
  · rw [Maps.size_put hd]
    rw [show Maps.has D (Lit.string s.data.toList) = false from hnot]
    simp [h3]
  · obtain ⟨g1, g2, g3, g4, g5⟩ := ht'.grown
    exact ⟨g1, g2, g3, by omega, fun i hi => g5 i (by have := ho.lt; omega) (by simp; omega)⟩
  · obtain ⟨es, cl, es', cl', hb, rfl⟩ := ht'
    simp [ChangeMaps.setBlock]
end Go.Proofs.Ytiijahoheajppaa
