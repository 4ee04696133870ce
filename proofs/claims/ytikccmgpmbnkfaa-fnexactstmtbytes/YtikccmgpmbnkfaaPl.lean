/- The contract of the landed ValOk. Whether a column is right: the landed ColOk. A map from texts to values, told by a list of what it holds: any program. The columns of a table by name: the landed map. -/
import Derived.Test.YtikccmgpmbnkfaaWithin
import Derived.Test.YtikccmgpmbnkfaaCellsV
import Derived.Test.YtikccmgpmbnkfaaColOkS
import Derived.Maps.OwnSet
import Derived.Below
import Derived.Test.YtikccmgpmbnkfaaTab
import Derived.Carry
namespace Go.Proofs.Ytikccmgpmbnkfaa
open Go.ChangeShapes Go.WideShapes Go.ChangeAt Go.RowKit

theorem ok_impl (ty n : Int) (s : ByteArray) (w : World) : Calls Try.prog 103 #[V ty n s] w fun e w' => e = .returned (.bool (okB ty n s)) ∧ ∃ k, w' = ((w.alloc (cellsV ty n s)).alloc (cellsV ty n s)).drewN k := by
  go_enter Try.func103, Try.ntmps103
  go_wp2_with (go_at_call 112; refine (within_any _ _ _ _).mono ?_; rintro e w' ⟨rfl, k, rfl⟩)
  go_ret
  exact ⟨rfl, _, rfl⟩
end Go.Proofs.Ytikccmgpmbnkfaa

namespace Go.Proofs.Ytikccmgpmbnkfaa
open Go.ChangeShapes Go.WideShapes Go.ChangeAt Go.RowKit

theorem Cl.ok_null (c : Cl) (hw : wordB c.name = true) (h1 : ¬ c.ty < 1) (h3 : ¬ 3 < c.ty) (hn : c.null = true) : c.ok = (!c.nt || !c.has) := by
  have e1 : decide (1 ≤ c.ty) = true := by simp; omega
  have e3 : decide (c.ty ≤ 3) = true := by simp; omega
  have hk : okB c.dt c.dn c.ds = true := by
    unfold Cl.null at hn
    rw [Bool.and_eq_true, Bool.and_eq_true] at hn
    have hd : c.dt = 0 := by simpa using hn.1
    rw [okB, if_pos hd, hn.2.1, hn.2.2]; rfl
  simp only [Cl.ok, hw, e1, e3, hn, hk]
  cases c.has <;> cases c.nt <;> rfl
theorem Cl.ok_not (c : Cl) (hw : wordB c.name = true) (h1 : ¬ c.ty < 1) (h3 : ¬ 3 < c.ty) (hn : c.null = false) : c.ok = (c.has && (c.dt == c.ty && okB c.dt c.dn c.ds)) := by
  have e1 : decide (1 ≤ c.ty) = true := by simp; omega
  have e3 : decide (c.ty ≤ 3) = true := by simp; omega
  simp only [Cl.ok, hw, e1, e3, hn]
  cases c.has <;> cases c.dt == c.ty <;> cases okB c.dt c.dn c.ds <;> rfl

set_option maxRecDepth 100000 in
set_option maxHeartbeats 4000000 in
/-- impl.ColOk -/
theorem colOk_impl (c : Cl) (w : World) (hn : c.name.size ≤ maxLen) : Calls Try.prog 109 #[c.v] w fun e w' => e = .returned (.bool c.ok) ∧ Below w.heap.size w w' := by
  have HW : Hid (∀ w : World, Calls Try.prog 67 #[.string c.name] w fun e w' => e = .returned (.bool (wordB c.name)) ∧ w' = w) := fun w => word_impl c.name w hn
  have hN := c.null_cases
  have H0 := c.ok_null
  have H1 := c.ok_not
  obtain ⟨name, ty, nt, has, dt, dn, ds⟩ := c
  simp only at HW hN H0 H1
  cases hw : wordB name
  · have HR : Hid (Cl.ok ⟨name, ty, nt, has, dt, dn, ds⟩ = false) := by show _ = _; simp [Cl.ok, hw]
    rw [hw] at HW
    clear hw H0 H1 hN
    go_enter Try.func109, Try.ntmps109
    go_wp2_with (go_at_call 67; refine (HW.out _).mono ?_; rintro e w' ⟨rfl, hw⟩; subst w')
    go_ret
    exact ⟨ret_b HR.out.symm, by repeat (first | exact Below.refl _ _ | refine Below.drew ?_ | refine below_draws _ ?_ | (refine Below.alloc ?_ (by first | (simp; done) | (simp; omega) | omega) _))⟩
  by_cases h1 : ty < 1
  · have HR : Hid (Cl.ok ⟨name, ty, nt, has, dt, dn, ds⟩ = false) := by show _ = _; have : ¬ 1 ≤ ty := by omega
                                                                        simp [Cl.ok, this]
    rw [hw] at HW
    clear hw H0 H1 hN
    go_enter Try.func109, Try.ntmps109
    go_wp2_with (go_at_call 67; refine (HW.out _).mono ?_; rintro e w' ⟨rfl, hw⟩; subst w')
    go_ret
    exact ⟨ret_b HR.out.symm, by repeat (first | exact Below.refl _ _ | refine Below.drew ?_ | refine below_draws _ ?_ | (refine Below.alloc ?_ (by first | (simp; done) | (simp; omega) | omega) _))⟩
  by_cases h3 : 3 < ty
  · have HR : Hid (Cl.ok ⟨name, ty, nt, has, dt, dn, ds⟩ = false) := by show _ = _; have : ¬ ty ≤ 3 := by omega
                                                                        simp [Cl.ok, this]
    rw [hw] at HW
    clear hw H0 H1 hN
    go_enter Try.func109, Try.ntmps109
    go_wp2_with (go_at_call 67; refine (HW.out _).mono ?_; rintro e w' ⟨rfl, hw⟩; subst w')
    go_ret
    exact ⟨ret_b HR.out.symm, by repeat (first | exact Below.refl _ _ | refine Below.drew ?_ | refine below_draws _ ?_ | (refine Below.alloc ?_ (by first | (simp; done) | (simp; omega) | omega) _))⟩
  have H0 := H0 hw h1 h3
  have H1 := H1 hw h1 h3
  rw [hw] at HW
  clear hw
  rcases hN with d1 | ⟨rfl, d2⟩ | ⟨rfl, rfl, d3⟩ | ⟨rfl, rfl, d3⟩
  · have H1 := H1 (by simp only [Cl.null, d1]; simp)
    clear H0
    cases has
    · have HR : Hid (_ = false) := H1
      clear H1
      go_enter Try.func109, Try.ntmps109
      go_wp2_with (go_at_call 67; refine (HW.out _).mono ?_; rintro e w' ⟨rfl, hw⟩; subst w')
      go_ret
      exact ⟨ret_b HR.out.symm, by repeat (first | exact Below.refl _ _ | refine Below.drew ?_ | refine below_draws _ ?_ | (refine Below.alloc ?_ (by first | (simp; done) | (simp; omega) | omega) _))⟩
    cases ht : dt == ty
    · have HR : Hid (_ = false) := H1.trans (by rw [ht]; rfl)
      clear H1
      go_enter Try.func109, Try.ntmps109
      go_wp2_with (go_at_call 67; refine (HW.out _).mono ?_; rintro e w' ⟨rfl, hw⟩; subst w')
      go_ret
      exact ⟨ret_b HR.out.symm, by repeat (first | exact Below.refl _ _ | refine Below.drew ?_ | refine below_draws _ ?_ | (refine Below.alloc ?_ (by first | (simp; done) | (simp; omega) | omega) _))⟩
    · have HR : Hid (_ = okB dt dn ds) := H1.trans (by rw [ht]; rfl)
      clear H1
      go_enter Try.func109, Try.ntmps109
      go_wp2_with (first | (go_at_call 67; refine (HW.out _).mono ?_; rintro e w' ⟨rfl, hw⟩; subst w') | (go_at_call 103; refine (ok_impl _ _ _ _).mono ?_; rintro e w' ⟨rfl, k, hw⟩; subst w'))
      go_ret
      exact ⟨ret_b HR.out.symm, by repeat (first | exact Below.refl _ _ | refine Below.drew ?_ | refine below_draws _ ?_ | (refine Below.alloc ?_ (by first | (simp; done) | (simp; omega) | omega) _))⟩
  · have ht : ((0 : Int) == ty) = false := by simp; omega
    have HR : Hid (_ = false) := (H1 (by simp only [Cl.null, d2]; simp)).trans (by simp [ht])
    clear H0 H1
    cases has
    all_goals
      go_enter Try.func109, Try.ntmps109
      go_wp2_with (first | (go_at_call 67; refine (HW.out _).mono ?_; rintro e w' ⟨rfl, hw⟩; subst w') | (go_at_call 103; refine (ok_impl _ _ _ _).mono ?_; rintro e w' ⟨rfl, k, hw⟩; subst w'))
      go_ret
      exact ⟨ret_b HR.out.symm, by repeat (first | exact Below.refl _ _ | refine Below.drew ?_ | refine below_draws _ ?_ | (refine Below.alloc ?_ (by first | (simp; done) | (simp; omega) | omega) _))⟩
  · have ht : ((0 : Int) == ty) = false := by simp; omega
    have HR : Hid (_ = false) := (H1 (by simp only [Cl.null, d3]; simp)).trans (by simp [ht])
    clear H0 H1
    cases has
    all_goals
      go_enter Try.func109, Try.ntmps109
      go_wp2_with (first | (go_at_call 67; refine (HW.out _).mono ?_; rintro e w' ⟨rfl, hw⟩; subst w') | (go_at_call 103; refine (ok_impl _ _ _ _).mono ?_; rintro e w' ⟨rfl, k, hw⟩; subst w'))
      go_ret
      exact ⟨ret_b HR.out.symm, by repeat (first | exact Below.refl _ _ | refine Below.drew ?_ | refine below_draws _ ?_ | (refine Below.alloc ?_ (by first | (simp; done) | (simp; omega) | omega) _))⟩
  · have H0 := H0 (by simp only [Cl.null, d3]; simp)
    clear H1
    cases nt <;> cases has
    all_goals
      have HR : Hid (_ = _) := H0
      clear H0
      go_enter Try.func109, Try.ntmps109
      go_wp2_with (first | (go_at_call 67; refine (HW.out _).mono ?_; rintro e w' ⟨rfl, hw⟩; subst w') | (go_at_call 103; refine (ok_impl _ _ _ _).mono ?_; rintro e w' ⟨rfl, k, hw⟩; subst w'))
      go_ret
      exact ⟨ret_b HR.out.symm, by repeat (first | exact Below.refl _ _ | refine Below.drew ?_ | refine below_draws _ ?_ | (refine Below.alloc ?_ (by first | (simp; done) | (simp; omega) | omega) _))⟩
end Go.Proofs.Ytikccmgpmbnkfaa

namespace Go.Proofs.Ytikccmgpmbnkfaa
open Go.RowKit

/-- An element reads as itself. -/
def rv (v : Value) : Option (DataW Value × List MemPlace) := some (.held v, [])
abbrev klit (s : ByteArray) : Lit := .string s.data.toList
theorem klit_inj {a b : ByteArray} (h : klit a = klit b) : a = b := by
  have h1 : a.data.toList = b.data.toList := by injection h
  have h2 : a.data = b.data := Array.toList_inj.1 h1
  cases a; cases b; simp at h2; rw [h2]
theorem same_key (a b : ByteArray) : (klit a).sameKey (klit b) = decide (a = b) := by
  by_cases h : a = b
  · subst h; simp [Lit.sameKey]
  · rw [decide_eq_false h]; exact Maps.sameKey_ne fun e => h (klit_inj e)

/-- Block b is a map that holds just the entries of the list, no text twice. -/
def MapIs (P : Program) (k : TypeId) (w : World) (b n : Nat) (L : List (ByteArray × Value)) : Prop :=
  ∃ D, w.ownsMap P k rv b n D ∧ (∀ s, Maps.has D (klit s) = L.any fun p => decide (p.1 = s)) ∧ (∀ s p, L.find? (fun p => decide (p.1 = s)) = some p → ∀ z, D.atKey (klit s) z = .held p.2) ∧ Maps.size D = L.length

variable {P : Program} {k t e : TypeId} {w w' : World} {b n : Nat} {L : List (ByteArray × Value)}
theorem MapIs.made : MapIs P k (w.alloc (.map #[] 0)) w.heap.size 0 [] :=
  ⟨.map [], World.ownsMap_made w P k rv, fun _ => rfl, fun _ _ h => by simp at h, rfl⟩
theorem MapIs.lt (h : MapIs P k w b n L) : b < w.heap.size := by obtain ⟨D, h, _⟩ := h; exact h.lt
theorem MapIs.on (h : MapIs P k w b n L) {B : Nat} (hb : Below B w w') (hlt : b < B) : MapIs P k w' b n L := by
  obtain ⟨D, ⟨es, clock, hm, r⟩, h1⟩ := h
  exact ⟨D, ⟨es, clock, (hb.block b hlt).trans hm, r⟩, h1⟩
theorem MapIs.mono (h : MapIs P k w b n L) {m : Nat} (hm : n ≤ m) : MapIs P k w b m L := by
  obtain ⟨D, h, r⟩ := h; exact ⟨D, h.mono hm, r⟩
theorem MapIs.look_yes (h : MapIs P k w b n L) (hk : P.underlying k = some .string) (ht : P.underlying t = some (.map k e)) {z : Value} (hz : (zeroValue e).run P w = .ok z w) {s : ByteArray} (hs : s.size ≤ maxLen) {p : ByteArray × Value} (hp : L.find? (fun p => decide (p.1 = s)) = some p) :
    (Instr.lookup t (.map (some b)) (.string s) true).run P w = .ok (.tuple #[p.2, .bool true]) w := by
  obtain ⟨D, ho, h1, h2, _⟩ := h
  obtain ⟨v, ps, hr, hv⟩ := ho.look_ok (Maps.string_keyed hk) ht hz (zd := .held z) (zp := []) rfl (WideMaps.keyOf_string_mk hk hs)
  rw [h2 s p hp] at hv
  have hv' : v = p.2 := by simp [rv] at hv; exact hv.1
  rw [hr, hv', h1 s]
  have : (L.any fun p => decide (p.1 = s)) = true := by
    rw [List.any_eq_true]; exact ⟨p, List.mem_of_find?_eq_some hp, by have h := @List.find?_some _ (fun q : ByteArray × Value => decide (q.1 = s)) _ _ hp; exact h⟩
  rw [this]
theorem MapIs.look_no (h : MapIs P k w b n L) (hk : P.underlying k = some .string) (ht : P.underlying t = some (.map k e)) {z : Value} (hz : (zeroValue e).run P w = .ok z w) {s : ByteArray} (hs : s.size ≤ maxLen) (hp : L.find? (fun p => decide (p.1 = s)) = .none) :
    (Instr.lookup t (.map (some b)) (.string s) true).run P w = .ok (.tuple #[z, .bool false]) w := by
  obtain ⟨D, ho, h1, h2, _⟩ := h
  obtain ⟨v, ps, hr, hv⟩ := ho.look_ok (Maps.string_keyed hk) ht hz (zd := .held z) (zp := []) rfl (WideMaps.keyOf_string_mk hk hs)
  have hn : Maps.has D (klit s) = false := by
    rw [h1 s, List.any_eq_false]; intro p hm; have := List.find?_eq_none.1 hp p hm; simpa using this
  rw [Maps.atKey_of_not_has hn] at hv
  have hv' : v = z := by simp [rv] at hv; exact hv.1
  rw [hr, hv', hn]
theorem MapIs.len (h : MapIs P k w b n L) (ht : P.underlying t = some (.map k e)) (ty : TypeId) : (Builtin.len_ #[t] ty #[.map (some b)]).run P w = .ok (.int .i64 L.length) w := by
  obtain ⟨D, ho, _, _, hs⟩ := h
  rw [ho.len ht ty, hs]
theorem MapIs.put (h : MapIs P k w b n L) (hk : P.underlying k = some .string) (ht : P.underlying t = some (.map k e)) (hn : n < maxLen) {s : ByteArray} (hs : s.size ≤ maxLen) (hp : L.find? (fun p => decide (p.1 = s)) = .none) (v : Value) :
    ∃ w', (Instr.mapUpdate t (.map (some b)) (.string s) v).run P w = .ok () w' ∧ MapIs P k w' b (n + 1) (L ++ [(s, v)]) ∧ Below b w w' ∧ w'.heap.size = w.heap.size := by
  obtain ⟨D, ho, h1, h2, h3⟩ := h
  obtain ⟨w', hr, ho', ht'⟩ := ho.store (Maps.string_keyed hk) ht hn (WideMaps.keyOf_string_mk hk hs) (val := v) (d := .held v) (ps := []) rfl
  have hd := ho.tidy (Maps.string_keyed hk)
  have hnot : Maps.has D (klit s) = false := by
    rw [h1 s, List.any_eq_false]; intro p hm; have := List.find?_eq_none.1 hp p hm; simpa using this
  have hkey : WideAt.IsKeyLit (klit s) := trivial
  refine ⟨w', hr, ⟨_, ho', ?_, ?_, ?_⟩, ?_, ?_⟩
  · intro x
    by_cases hx : s = x
    · subst hx
      rw [show Maps.has (D.put (.string s.data.toList) (.held v)) (klit s) = true from Maps.has_put_same hd.isMap hkey _]
      simp
    · rw [show Maps.has (D.put (.string s.data.toList) (.held v)) (klit x) = _ from Maps.has_put_other (fun e => hx (klit_inj e).symm) _, h1 x]
      simp [hx]
  · intro x p hf z
    by_cases hx : s = x
    · subst hx
      rw [List.find?_append, hp] at hf
      simp at hf
      subst hf
      exact Maps.atKey_put_same hd.isMap hkey _ _
    · rw [List.find?_append] at hf
      simp [hx] at hf
      rw [← h2 x p hf z]
      exact Maps.atKey_put_other (fun e => hx (klit_inj e).symm) _ _
  · rw [Maps.size_put hd]
    rw [show Maps.has D (Lit.string s.data.toList) = false from hnot]
    simp [h3]
  · obtain ⟨g1, g2, g3, g4, g5⟩ := ht'.grown
    exact ⟨g1, g2, g3, by omega, fun i hi => g5 i (by have := ho.lt; omega) (by simp; omega)⟩
  · obtain ⟨es, cl, es', cl', hb, rfl⟩ := ht'
    simp [ChangeMaps.setBlock]
end Go.Proofs.Ytikccmgpmbnkfaa

namespace Go.Proofs.Ytikccmgpmbnkfaa
open Go.ChangeShapes Go.WideShapes Go.ChangeAt Go.RowKit

/-- A column and its place. -/
abbrev pcells (p : Int × Cl) : Array Value := #[.int .i64 p.1, .string p.2.name, .int .i64 p.2.ty, .bool p.2.nt, .bool p.2.has, .int .i64 p.2.dt, .int .i64 p.2.dn, .string p.2.ds]
/-- .. as the map holds it. -/
def pent (p : Int × Cl) : ByteArray × Value := (p.2.name, .agg (pcells p))
/-- The first of the columns with one name, among the first k. -/
def firsts (cs : List Cl) : Nat → List (Int × Cl)
  | 0 => []
  | k + 1 => match cs[k]? with
    | some c => if (firsts cs k).any (fun p => decide (p.2.name = c.name)) then firsts cs k else firsts cs k ++ [((k : Int), c)]
    | .none => firsts cs k
theorem firsts_skip {cs : List Cl} {k : Nat} (hk : k < cs.length) (h : (firsts cs k).any (fun p => decide (p.2.name = cs[k].name)) = true) : firsts cs (k + 1) = firsts cs k := by
  rw [firsts, List.getElem?_eq_getElem hk]; simp only []; rw [if_pos h]
theorem firsts_add {cs : List Cl} {k : Nat} (hk : k < cs.length) (h : (firsts cs k).any (fun p => decide (p.2.name = cs[k].name)) = false) : firsts cs (k + 1) = firsts cs k ++ [((k : Int), cs[k])] := by
  rw [firsts, List.getElem?_eq_getElem hk]; simp only []; rw [if_neg (by rw [h]; decide)]
theorem firsts_mem {cs : List Cl} : ∀ (k : Nat) (p : Int × Cl), p ∈ firsts cs k → ∃ i, ∃ h : i < cs.length, i < k ∧ p = ((i : Int), cs[i])
  | 0, p, h => by simp [firsts] at h
  | k + 1, p, h => by
    by_cases hk : k < cs.length
    · cases hq : (firsts cs k).any (fun p => decide (p.2.name = cs[k].name))
      · rw [firsts_add hk hq] at h
        rcases List.mem_append.1 h with h | h
        · obtain ⟨i, hi, hl, e⟩ := firsts_mem k p h; exact ⟨i, hi, by omega, e⟩
        · simp at h; exact ⟨k, hk, by omega, h⟩
      · rw [firsts_skip hk hq] at h
        obtain ⟨i, hi, hl, e⟩ := firsts_mem k p h; exact ⟨i, hi, by omega, e⟩
    · rw [firsts, List.getElem?_eq_none (by omega)] at h
      obtain ⟨i, hi, hl, e⟩ := firsts_mem k p h; exact ⟨i, hi, by omega, e⟩
theorem firsts_none {cs : List Cl} {s : ByteArray} {k : Nat} (hn : ∀ j (h : j < cs.length), j < k → cs[j].name ≠ s) : (firsts cs k).find? (fun p => decide (p.2.name = s)) = .none := by
  rw [List.find?_eq_none]
  intro p hp
  obtain ⟨i, hi, hl, rfl⟩ := firsts_mem k p hp
  simpa using hn i hi hl
theorem firsts_some {cs : List Cl} {s : ByteArray} {i : Nat} (hi : i < cs.length) (he : cs[i].name = s) (hn : ∀ j (h : j < cs.length), j < i → cs[j].name ≠ s) : ∀ k, i < k → (firsts cs k).find? (fun p => decide (p.2.name = s)) = some ((i : Int), cs[i])
  | 0, h => by omega
  | k + 1, h => by
    by_cases hk : k < cs.length
    · by_cases e : i = k
      · subst e
        have h0 := firsts_none (k := i) hn
        have hq : (firsts cs i).any (fun p => decide (p.2.name = cs[i].name)) = false := by
          rw [List.any_eq_false]; intro p hp; have := List.find?_eq_none.1 h0 p hp; rw [he]; simpa using this
        rw [firsts_add hk hq, List.find?_append, h0]
        simp [he]
      · have ih := firsts_some hi he hn k (by omega)
        cases hq : (firsts cs k).any (fun p => decide (p.2.name = cs[k].name))
        · rw [firsts_add hk hq, List.find?_append, ih]; rfl
        · rw [firsts_skip hk hq]; exact ih
    · have e : firsts cs (k + 1) = firsts cs k := by rw [firsts, List.getElem?_eq_none (by omega)]
      rw [e]
      by_cases e : i = k
      · omega
      · exact firsts_some hi he hn k (by omega)
theorem firsts_any {cs : List Cl} {k : Nat} {s : ByteArray} : ((firsts cs k).any (fun p => decide (p.2.name = s)) = false → (firsts cs k).find? (fun p => decide (p.2.name = s)) = .none) ∧ ((firsts cs k).any (fun p => decide (p.2.name = s)) = true → ∃ q, (firsts cs k).find? (fun p => decide (p.2.name = s)) = some q) := by
  refine ⟨fun h => List.find?_eq_none.2 fun p hp => ?_, fun h => ?_⟩
  · have := List.any_eq_false.1 h p hp; simpa using this
  · have : ((firsts cs k).find? (fun p => decide (p.2.name = s))).isSome = true := by rw [List.find?_isSome]; simpa using h
    exact Option.isSome_iff_exists.1 this
/-- The map's list. -/
def plist (cs : List Cl) (k : Nat) : List (ByteArray × Value) := (firsts cs k).map pent
theorem plist_find (cs : List Cl) (k : Nat) (s : ByteArray) : (plist cs k).find? (fun p => decide (p.1 = s)) = ((firsts cs k).find? (fun p => decide (p.2.name = s))).map pent := by
  unfold plist
  rw [List.find?_map]
  rfl

theorem zeroP : ∀ w : World, (zeroValue 163).run Try.prog w = .ok (.agg #[.int .i64 0, .string ByteArray.empty, .int .i64 0, .bool false, .bool false, .int .i64 0, .int .i64 0, .string ByteArray.empty]) w := fun w => by kernel_rfl
theorem run_makeMap_hint {P : Program} {t k e : TypeId} (ht : P.underlying t = some (.map k e)) (q : IntKind) (n : Int) (w : World) : (Instr.makeMap t (some (.int q n))).run P w = .ok (.map (some w.heap.size)) (w.alloc (.map #[] 0)) := by
  simp [Instr.makeMap, run_underlying ht, Result.andThen]
  rfl

set_option maxRecDepth 100000 in
set_option maxHeartbeats 1000000 in
/-- impl.columnsOf -/
theorem columnsOf_any (cv : Value) (cs : List Cl) (w : World) (hc : ColsV w cv cs) (hf : ∀ c ∈ cs, c.name.size ≤ maxLen ∧ c.ds.size ≤ maxLen) :
    Calls Try.prog 110 #[cv] w fun e w' => ∃ b, e = .returned (.map (some b)) ∧ Below w.heap.size w w' ∧ MapIs Try.prog 9 w' b cs.length (plist cs cs.length) := by
  obtain ⟨a, cap, rfl, hl, hm, hc⟩ := hc
  unfold maxLen at hm
  have HC : Hid (RowAt w a 7 (cs.map Cl.cells)) := hc
  have HK : Hid (∀ c ∈ cs, c.name.size ≤ maxLen ∧ c.ds.size ≤ maxLen) := hf
  clear hc hf
  have hmm := fun q n w => run_makeMap_hint (P := Try.prog) Try.underlying156 q n w
  go_enter Try.func110, Try.ntmps110
  go_wp2
  have HM0 : Hid (MapIs Try.prog 9 (w.alloc (.map #[] 0)) w.heap.size 0 (plist cs 0)) := MapIs.made
  go_loopw [13] (fun i wr => ∃ k : Nat, k ≤ cs.length ∧ i = .int .i64 k ∧ Below w.heap.size w wr ∧ Hid (MapIs Try.prog 9 wr w.heap.size k (plist cs k))) (fun i _ => cs.length - (intOf i).toNat)
  case atStart => exact ⟨0, Nat.zero_le _, rfl, (by repeat (first | with_reducible exact Below.refl _ _ | with_reducible assumption | with_reducible refine ch_alloc ?_ _ | with_reducible refine Below.drew ?_ | with_reducible refine below_draws _ ?_ | (with_reducible refine Below.setCell ?_ ?_ _; rotate_left; focus (first | with_reducible exact Nat.le_refl _ | (simp; done) | (simp; omega) | (simp at *; omega))) | with_reducible refine ch_trans ?_ (by with_reducible assumption))), HM0⟩
  case round =>
    clear HM0 hmm
    obtain ⟨k, hk, rfl, hb, HM⟩ := hrel
    by_cases hlt : k < cs.length
    · have hlti : (k : Int) < cs.length := by omega
      obtain ⟨b, off, rfl, c0, c1, c2, c3, c4, c5, c6⟩ := (HC.out.on hb).cols k hlt
      obtain ⟨s1, s2⟩ := HK.out _ (List.getElem_mem hlt)
      have hM1 : MapIs Try.prog 9 (wr.alloc (.cells #[.string cs[k].name, .int .i64 cs[k].ty, .bool cs[k].nt, .bool cs[k].has, .int .i64 cs[k].dt, .int .i64 cs[k].dn, .string cs[k].ds] 121)) w.heap.size k (plist cs k) := HM.out.on (ch_alloc (Below.refl _ _) _) HM.out.lt
      cases hq : (firsts cs k).any (fun p => decide (p.2.name = cs[k].name))
      · have hf := plist_find cs k cs[k].name
        rw [firsts_any.1 hq] at hf
        have hlook := hM1.look_no Try.underlying9 Try.underlying156 (zeroP _) s1 hf
        obtain ⟨w1, hup, hM2, hbel, hsz⟩ := (hM1.on (ch_alloc (Below.refl _ _) (.cells #[.int .i64 0, .string ByteArray.empty, .int .i64 0, .bool false, .bool false, .int .i64 0, .int .i64 0, .string ByteArray.empty] 163)) hM1.lt).put Try.underlying9 Try.underlying156 (by unfold maxLen; omega) s1 hf (.agg (pcells ((k : Int), cs[k])))
        have HM' : Hid (MapIs Try.prog 9 w1 w.heap.size (k + 1) (plist cs (k + 1))) := by
          show MapIs _ _ _ _ _ _
          unfold plist
          rw [firsts_add hlt hq, List.map_append]
          exact hM2
        have HB' : Hid (Below w.heap.size w w1) := Below.trans (b := ((wr.alloc (.cells #[.string cs[k].name, .int .i64 cs[k].ty, .bool cs[k].nt, .bool cs[k].has, .int .i64 cs[k].dt, .int .i64 cs[k].dn, .string cs[k].ds] 121)).alloc (.cells #[.int .i64 0, .string ByteArray.empty, .int .i64 0, .bool false, .bool false, .int .i64 0, .int .i64 0, .string ByteArray.empty] 163))) (by repeat (first | with_reducible exact Below.refl _ _ | with_reducible assumption | with_reducible refine ch_alloc ?_ _ | with_reducible refine Below.drew ?_ | with_reducible refine below_draws _ ?_ | (with_reducible refine Below.setCell ?_ ?_ _; rotate_left; focus (first | with_reducible exact Nat.le_refl _ | (simp; done) | (simp; omega) | (simp at *; omega))) | with_reducible refine ch_trans ?_ (by with_reducible assumption))) hbel
        clear hf hM1 hM2 hbel hsz HM hq s1 s2
        go_wp2
        go_round
        case rel => exact ⟨k + 1, by omega, by go_num, HB'.out, HM'⟩
        case measure => simp [intOf]; omega
      · have hf := plist_find cs k cs[k].name
        obtain ⟨q, hqf⟩ := firsts_any.2 hq
        rw [hqf] at hf
        have hlook : _ = Result.ok (Value.tuple #[.agg #[.int .i64 q.1, .string q.2.name, .int .i64 q.2.ty, .bool q.2.nt, .bool q.2.has, .int .i64 q.2.dt, .int .i64 q.2.dn, .string q.2.ds], .bool true]) _ := hM1.look_yes Try.underlying9 Try.underlying156 (zeroP _) s1 hf
        have HM' : Hid (MapIs Try.prog 9 ((wr.alloc (.cells #[.string cs[k].name, .int .i64 cs[k].ty, .bool cs[k].nt, .bool cs[k].has, .int .i64 cs[k].dt, .int .i64 cs[k].dn, .string cs[k].ds] 121)).alloc (.cells #[.int .i64 q.1, .string q.2.name, .int .i64 q.2.ty, .bool q.2.nt, .bool q.2.has, .int .i64 q.2.dt, .int .i64 q.2.dn, .string q.2.ds] 163)) w.heap.size (k + 1) (plist cs (k + 1))) := by
          show MapIs _ _ _ _ _ _
          unfold plist
          rw [firsts_skip hlt hq]
          exact (hM1.on (ch_alloc (Below.refl _ _) _) hM1.lt).mono (by omega)
        clear hf hM1 HM hq s1 s2 hqf
        go_wp2
        go_round
        case rel => exact ⟨k + 1, by omega, by go_num, (by repeat (first | with_reducible exact Below.refl _ _ | with_reducible assumption | with_reducible refine ch_alloc ?_ _ | with_reducible refine Below.drew ?_ | with_reducible refine below_draws _ ?_ | (with_reducible refine Below.setCell ?_ ?_ _; rotate_left; focus (first | with_reducible exact Nat.le_refl _ | (simp; done) | (simp; omega) | (simp at *; omega))) | with_reducible refine ch_trans ?_ (by with_reducible assumption))), HM'⟩
        case measure => simp [intOf]; omega
    · have hlti : (cs.length : Int) ≤ k := by omega
      have hke : k = cs.length := by omega
      subst hke
      go_wp2
      go_ret
      exact ⟨_, rfl, (by repeat (first | with_reducible exact Below.refl _ _ | with_reducible assumption | with_reducible refine ch_alloc ?_ _ | with_reducible refine Below.drew ?_ | with_reducible refine below_draws _ ?_ | (with_reducible refine Below.setCell ?_ ?_ _; rotate_left; focus (first | with_reducible exact Nat.le_refl _ | (simp; done) | (simp; omega) | (simp at *; omega))) | with_reducible refine ch_trans ?_ (by with_reducible assumption))), HM.out⟩

theorem colAt_firsts (cs : List Cl) (s : ByteArray) : ((firsts cs cs.length).find? (fun p => decide (p.2.name = s)) = .none ∧ colAt cs s = -1) ∨ ∃ i, ∃ h : i < cs.length, (firsts cs cs.length).find? (fun p => decide (p.2.name = s)) = some ((i : Int), cs[i]) ∧ colAt cs s = i := by
  cases hf : cs.findIdx? (fun c => decide (c.name = s)) with
  | none =>
    have hn : ∀ j (h : j < cs.length), cs[j].name ≠ s := fun j h => by
      have := List.findIdx?_eq_none_iff.1 hf _ (List.getElem_mem h); simpa using this
    exact Or.inl ⟨firsts_none fun j h _ => hn j h, by rw [colAt, hf]⟩
  | some i =>
    obtain ⟨hi, he, hn⟩ := List.findIdx?_eq_some_iff_getElem.1 hf
    refine Or.inr ⟨i, hi, firsts_some hi (by simpa using he) (fun j h hj => by simpa using hn j hj) _ hi, by rw [colAt, hf]⟩
end Go.Proofs.Ytikccmgpmbnkfaa
