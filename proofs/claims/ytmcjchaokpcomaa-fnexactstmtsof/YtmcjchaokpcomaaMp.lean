/- The landed program's inner value of a value, and whether it is right. The contract of the landed ValOk. Whether a column is right: the landed ColOk. A map from texts to values, told by a list of what it holds: any program. -/
import Derived.Test.YtmcjchaokpcomaaVals
import Derived.Test.YtmcjchaokpcomaaCellsV
import Derived.Test.YtmcjchaokpcomaaColOkS
import Derived.Maps.OwnSet
import Derived.Below
namespace Go.Proofs.Ytmcjchaokpcomaa
open Go.ChangeShapes Go.WideShapes Go.ChangeAt Go.RowKit

/-- The inner value that the landed program makes of a value. -/
def inner (ty n : Int) (s : ByteArray) : Value :=
  if ty = 0 then .iface 143 (.agg #[]) else if ty = 1 then .iface 144 (.bool (n == 1)) else
  if ty = 2 then .iface 145 (.int .i64 n) else if ty = 3 then .iface 146 (.string s) else .iface 143 (.agg #[])

theorem within_any (ty n : Int) (s : ByteArray) (w : World) : Calls Try.prog 100 #[V ty n s] w fun e w' => e = .returned (.tuple #[inner ty n s, .bool (okB ty n s)]) ∧ ∃ k, w' = (w.alloc (.cells #[.int .i64 ty, .int .i64 n, .string s] 100)).drewN k := by
  by_cases h0 : ty = 0
  · subst h0
    cases h1 : n == 0
    all_goals
      go_enter Try.func100, Try.ntmps100
      go_wp2
      go_quiet (fail)
      go_wp2
      go_ret2
      exact ⟨by simp [okB, inner, h1], _, rfl⟩
  by_cases h1 : ty = 1
  · subst h1
    cases h1 : n == 0 <;> cases h2 : n == 1
    all_goals
      go_enter Try.func100, Try.ntmps100
      go_wp2
      go_quiet (fail)
      go_wp2
      go_ret2
      exact ⟨by simp [okB, inner, h1, h2], _, rfl⟩
  by_cases h2 : ty = 2
  · subst h2
    cases h1 : numB n
    all_goals
      go_enter Try.func100, Try.ntmps100
      go_wp2
      go_quiet ((go_at_call 102; exact Calls.quiet_of_same (num_impl _ _)))
      go_wp2
      go_ret2
      exact ⟨by simp [okB, inner, h1], _, rfl⟩
  by_cases h3 : ty = 3
  · subst h3
    cases h1 : n == 0
    all_goals
      go_enter Try.func100, Try.ntmps100
      go_wp2
      go_quiet (fail)
      go_wp2
      go_ret2
      exact ⟨by simp [okB, inner, h1, sizeLe], _, rfl⟩
  · have e0 : (ty == 0) = false := by simp [h0]
    have e1 : (ty == 1) = false := by simp [h1]
    have e2 : (ty == 2) = false := by simp [h2]
    have e3 : (ty == 3) = false := by simp [h3]
    go_enter Try.func100, Try.ntmps100
    go_wp2
    go_ret2
    exact ⟨by simp [okB, inner, h0, h1, h2, h3], 0, rfl⟩
end Go.Proofs.Ytmcjchaokpcomaa

namespace Go.Proofs.Ytmcjchaokpcomaa
open Go.ChangeShapes Go.WideShapes Go.ChangeAt Go.RowKit

theorem ok_impl (ty n : Int) (s : ByteArray) (w : World) : Calls Try.prog 87 #[V ty n s] w fun e w' => e = .returned (.bool (okB ty n s)) ∧ ∃ k, w' = ((w.alloc (cellsV ty n s)).alloc (cellsV ty n s)).drewN k := by
  go_enter Try.func87, Try.ntmps87
  go_wp2_with (go_at_call 100; refine (within_any _ _ _ _).mono ?_; rintro e w' ⟨rfl, k, rfl⟩)
  go_ret
  exact ⟨rfl, _, rfl⟩
end Go.Proofs.Ytmcjchaokpcomaa

namespace Go.Proofs.Ytmcjchaokpcomaa
open Go.ChangeShapes Go.WideShapes Go.ChangeAt Go.RowKit

theorem Cl.ok_null (c : Cl) (hw : wordB c.name = true) (h1 : ¬ c.ty < 1) (h3 : ¬ 3 < c.ty) (hn : c.null = true) : c.ok = (!c.nt || !c.has) := by
  have e1 : decide (1 ≤ c.ty) = true := by simp; omega
  have e3 : decide (c.ty ≤ 3) = true := by simp; omega
  have hk : okB c.dt c.dn c.ds = true := by
    unfold Cl.null at hn
    rw [Bool.and_eq_true, Bool.and_eq_true] at hn
    have hd : c.dt = 0 := by simpa using hn.1
    rw [okB, if_pos hd, hn.2.1, hn.2.2]; rfl
  simp only [Cl.ok, hw, e1, e3, hn, hk]
  cases c.has <;> cases c.nt <;> rfl
theorem Cl.ok_not (c : Cl) (hw : wordB c.name = true) (h1 : ¬ c.ty < 1) (h3 : ¬ 3 < c.ty) (hn : c.null = false) : c.ok = (c.has && (c.dt == c.ty && okB c.dt c.dn c.ds)) := by
  have e1 : decide (1 ≤ c.ty) = true := by simp; omega
  have e3 : decide (c.ty ≤ 3) = true := by simp; omega
  simp only [Cl.ok, hw, e1, e3, hn]
  cases c.has <;> cases c.dt == c.ty <;> cases okB c.dt c.dn c.ds <;> rfl

set_option maxRecDepth 100000 in
set_option maxHeartbeats 4000000 in
/-- impl.ColOk -/
theorem colOk_impl (c : Cl) (w : World) (hn : c.name.size ≤ maxLen) : Calls Try.prog 97 #[c.v] w fun e w' => e = .returned (.bool c.ok) ∧ Below w.heap.size w w' := by
  have HW : Hid (∀ w : World, Calls Try.prog 62 #[.string c.name] w fun e w' => e = .returned (.bool (wordB c.name)) ∧ w' = w) := fun w => word_impl c.name w hn
  have hN := c.null_cases
  have H0 := c.ok_null
  have H1 := c.ok_not
  obtain ⟨name, ty, nt, has, dt, dn, ds⟩ := c
  simp only at HW hN H0 H1
  cases hw : wordB name
  · have HR : Hid (Cl.ok ⟨name, ty, nt, has, dt, dn, ds⟩ = false) := by show _ = _; simp [Cl.ok, hw]
    rw [hw] at HW
    clear hw H0 H1 hN
    go_enter Try.func97, Try.ntmps97
    go_wp2_with (go_at_call 62; refine (HW.out _).mono ?_; rintro e w' ⟨rfl, hw⟩; subst w')
    go_ret
    exact ⟨ret_b HR.out.symm, by repeat (first | exact Below.refl _ _ | refine Below.drew ?_ | refine below_draws _ ?_ | (refine Below.alloc ?_ (by first | (simp; done) | (simp; omega) | omega) _))⟩
  by_cases h1 : ty < 1
  · have HR : Hid (Cl.ok ⟨name, ty, nt, has, dt, dn, ds⟩ = false) := by show _ = _; have : ¬ 1 ≤ ty := by omega
                                                                        simp [Cl.ok, this]
    rw [hw] at HW
    clear hw H0 H1 hN
    go_enter Try.func97, Try.ntmps97
    go_wp2_with (go_at_call 62; refine (HW.out _).mono ?_; rintro e w' ⟨rfl, hw⟩; subst w')
    go_ret
    exact ⟨ret_b HR.out.symm, by repeat (first | exact Below.refl _ _ | refine Below.drew ?_ | refine below_draws _ ?_ | (refine Below.alloc ?_ (by first | (simp; done) | (simp; omega) | omega) _))⟩
  by_cases h3 : 3 < ty
  · have HR : Hid (Cl.ok ⟨name, ty, nt, has, dt, dn, ds⟩ = false) := by show _ = _; have : ¬ ty ≤ 3 := by omega
                                                                        simp [Cl.ok, this]
    rw [hw] at HW
    clear hw H0 H1 hN
    go_enter Try.func97, Try.ntmps97
    go_wp2_with (go_at_call 62; refine (HW.out _).mono ?_; rintro e w' ⟨rfl, hw⟩; subst w')
    go_ret
    exact ⟨ret_b HR.out.symm, by repeat (first | exact Below.refl _ _ | refine Below.drew ?_ | refine below_draws _ ?_ | (refine Below.alloc ?_ (by first | (simp; done) | (simp; omega) | omega) _))⟩
  have H0 := H0 hw h1 h3
  have H1 := H1 hw h1 h3
  rw [hw] at HW
  clear hw
  rcases hN with d1 | ⟨rfl, d2⟩ | ⟨rfl, rfl, d3⟩ | ⟨rfl, rfl, d3⟩
  · have H1 := H1 (by simp only [Cl.null, d1]; simp)
    clear H0
    cases has
    · have HR : Hid (_ = false) := H1
      clear H1
      go_enter Try.func97, Try.ntmps97
      go_wp2_with (go_at_call 62; refine (HW.out _).mono ?_; rintro e w' ⟨rfl, hw⟩; subst w')
      go_ret
      exact ⟨ret_b HR.out.symm, by repeat (first | exact Below.refl _ _ | refine Below.drew ?_ | refine below_draws _ ?_ | (refine Below.alloc ?_ (by first | (simp; done) | (simp; omega) | omega) _))⟩
    cases ht : dt == ty
    · have HR : Hid (_ = false) := H1.trans (by rw [ht]; rfl)
      clear H1
      go_enter Try.func97, Try.ntmps97
      go_wp2_with (go_at_call 62; refine (HW.out _).mono ?_; rintro e w' ⟨rfl, hw⟩; subst w')
      go_ret
      exact ⟨ret_b HR.out.symm, by repeat (first | exact Below.refl _ _ | refine Below.drew ?_ | refine below_draws _ ?_ | (refine Below.alloc ?_ (by first | (simp; done) | (simp; omega) | omega) _))⟩
    · have HR : Hid (_ = okB dt dn ds) := H1.trans (by rw [ht]; rfl)
      clear H1
      go_enter Try.func97, Try.ntmps97
      go_wp2_with (first | (go_at_call 62; refine (HW.out _).mono ?_; rintro e w' ⟨rfl, hw⟩; subst w') | (go_at_call 87; refine (ok_impl _ _ _ _).mono ?_; rintro e w' ⟨rfl, k, hw⟩; subst w'))
      go_ret
      exact ⟨ret_b HR.out.symm, by repeat (first | exact Below.refl _ _ | refine Below.drew ?_ | refine below_draws _ ?_ | (refine Below.alloc ?_ (by first | (simp; done) | (simp; omega) | omega) _))⟩
  · have ht : ((0 : Int) == ty) = false := by simp; omega
    have HR : Hid (_ = false) := (H1 (by simp only [Cl.null, d2]; simp)).trans (by simp [ht])
    clear H0 H1
    cases has
    all_goals
      go_enter Try.func97, Try.ntmps97
      go_wp2_with (first | (go_at_call 62; refine (HW.out _).mono ?_; rintro e w' ⟨rfl, hw⟩; subst w') | (go_at_call 87; refine (ok_impl _ _ _ _).mono ?_; rintro e w' ⟨rfl, k, hw⟩; subst w'))
      go_ret
      exact ⟨ret_b HR.out.symm, by repeat (first | exact Below.refl _ _ | refine Below.drew ?_ | refine below_draws _ ?_ | (refine Below.alloc ?_ (by first | (simp; done) | (simp; omega) | omega) _))⟩
  · have ht : ((0 : Int) == ty) = false := by simp; omega
    have HR : Hid (_ = false) := (H1 (by simp only [Cl.null, d3]; simp)).trans (by simp [ht])
    clear H0 H1
    cases has
    all_goals
      go_enter Try.func97, Try.ntmps97
      go_wp2_with (first | (go_at_call 62; refine (HW.out _).mono ?_; rintro e w' ⟨rfl, hw⟩; subst w') | (go_at_call 87; refine (ok_impl _ _ _ _).mono ?_; rintro e w' ⟨rfl, k, hw⟩; subst w'))
      go_ret
      exact ⟨ret_b HR.out.symm, by repeat (first | exact Below.refl _ _ | refine Below.drew ?_ | refine below_draws _ ?_ | (refine Below.alloc ?_ (by first | (simp; done) | (simp; omega) | omega) _))⟩
  · have H0 := H0 (by simp only [Cl.null, d3]; simp)
    clear H1
    cases nt <;> cases has
    all_goals
      have HR : Hid (_ = _) := H0
      clear H0
      go_enter Try.func97, Try.ntmps97
      go_wp2_with (first | (go_at_call 62; refine (HW.out _).mono ?_; rintro e w' ⟨rfl, hw⟩; subst w') | (go_at_call 87; refine (ok_impl _ _ _ _).mono ?_; rintro e w' ⟨rfl, k, hw⟩; subst w'))
      go_ret
      exact ⟨ret_b HR.out.symm, by repeat (first | exact Below.refl _ _ | refine Below.drew ?_ | refine below_draws _ ?_ | (refine Below.alloc ?_ (by first | (simp; done) | (simp; omega) | omega) _))⟩
end Go.Proofs.Ytmcjchaokpcomaa

namespace Go.Proofs.Ytmcjchaokpcomaa
open Go.RowKit

/-- An element reads as itself. -/
def rv (v : Value) : Option (DataW Value × List MemPlace) := some (.held v, [])
abbrev klit (s : ByteArray) : Lit := .string s.data.toList
theorem klit_inj {a b : ByteArray} (h : klit a = klit b) : a = b := by
  have h1 : a.data.toList = b.data.toList := by injection h
  have h2 : a.data = b.data := Array.toList_inj.1 h1
  cases a; cases b; simp at h2; rw [h2]
theorem same_key (a b : ByteArray) : (klit a).sameKey (klit b) = decide (a = b) := by
  by_cases h : a = b
  · subst h; simp [Lit.sameKey]
  · rw [decide_eq_false h]; exact Maps.sameKey_ne fun e => h (klit_inj e)

/-- Block b is a map that holds just the entries of the list, no text twice. -/
def MapIs (P : Program) (k : TypeId) (w : World) (b n : Nat) (L : List (ByteArray × Value)) : Prop :=
  ∃ D, w.ownsMap P k rv b n D ∧ (∀ s, Maps.has D (klit s) = L.any fun p => decide (p.1 = s)) ∧ (∀ s p, L.find? (fun p => decide (p.1 = s)) = some p → ∀ z, D.atKey (klit s) z = .held p.2) ∧ Maps.size D = L.length

variable {P : Program} {k t e : TypeId} {w w' : World} {b n : Nat} {L : List (ByteArray × Value)}
theorem MapIs.made : MapIs P k (w.alloc (.map #[] 0)) w.heap.size 0 [] :=
  ⟨.map [], World.ownsMap_made w P k rv, fun _ => rfl, fun _ _ h => by simp at h, rfl⟩
theorem MapIs.lt (h : MapIs P k w b n L) : b < w.heap.size := by obtain ⟨D, h, _⟩ := h; exact h.lt
theorem MapIs.on (h : MapIs P k w b n L) {B : Nat} (hb : Below B w w') (hlt : b < B) : MapIs P k w' b n L := by
  obtain ⟨D, ⟨es, clock, hm, r⟩, h1⟩ := h
  exact ⟨D, ⟨es, clock, (hb.block b hlt).trans hm, r⟩, h1⟩
theorem MapIs.mono (h : MapIs P k w b n L) {m : Nat} (hm : n ≤ m) : MapIs P k w b m L := by
  obtain ⟨D, h, r⟩ := h; exact ⟨D, h.mono hm, r⟩
theorem MapIs.look_yes (h : MapIs P k w b n L) (hk : P.underlying k = some .string) (ht : P.underlying t = some (.map k e)) {z : Value} (hz : (zeroValue e).run P w = .ok z w) {s : ByteArray} (hs : s.size ≤ maxLen) {p : ByteArray × Value} (hp : L.find? (fun p => decide (p.1 = s)) = some p) :
    (Instr.lookup t (.map (some b)) (.string s) true).run P w = .ok (.tuple #[p.2, .bool true]) w := by
  obtain ⟨D, ho, h1, h2, _⟩ := h
  obtain ⟨v, ps, hr, hv⟩ := ho.look_ok (Maps.string_keyed hk) ht hz (zd := .held z) (zp := []) rfl (WideMaps.keyOf_string_mk hk hs)
  rw [h2 s p hp] at hv
  have hv' : v = p.2 := by simp [rv] at hv; exact hv.1
  rw [hr, hv', h1 s]
  have : (L.any fun p => decide (p.1 = s)) = true := by
    rw [List.any_eq_true]; exact ⟨p, List.mem_of_find?_eq_some hp, by have h := @List.find?_some _ (fun q : ByteArray × Value => decide (q.1 = s)) _ _ hp; exact h⟩
  rw [this]
theorem MapIs.look_no (h : MapIs P k w b n L) (hk : P.underlying k = some .string) (ht : P.underlying t = some (.map k e)) {z : Value} (hz : (zeroValue e).run P w = .ok z w) {s : ByteArray} (hs : s.size ≤ maxLen) (hp : L.find? (fun p => decide (p.1 = s)) = .none) :
    (Instr.lookup t (.map (some b)) (.string s) true).run P w = .ok (.tuple #[z, .bool false]) w := by
  obtain ⟨D, ho, h1, h2, _⟩ := h
  obtain ⟨v, ps, hr, hv⟩ := ho.look_ok (Maps.string_keyed hk) ht hz (zd := .held z) (zp := []) rfl (WideMaps.keyOf_string_mk hk hs)
  have hn : Maps.has D (klit s) = false := by
    rw [h1 s, List.any_eq_false]; intro p hm; have := List.find?_eq_none.1 hp p hm; simpa using this
  rw [Maps.atKey_of_not_has hn] at hv
  have hv' : v = z := by simp [rv] at hv; exact hv.1
  rw [hr, hv', hn]
theorem MapIs.len (h : MapIs P k w b n L) (ht : P.underlying t = some (.map k e)) (ty : TypeId) : (Builtin.len_ #[t] ty #[.map (some b)]).run P w = .ok (.int .i64 L.length) w := by
  obtain ⟨D, ho, _, _, hs⟩ := h
  rw [ho.len ht ty, hs]
theorem MapIs.put (h : MapIs P k w b n L) (hk : P.underlying k = some .string) (ht : P.underlying t = some (.map k e)) (hn : n < maxLen) {s : ByteArray} (hs : s.size ≤ maxLen) (hp : L.find? (fun p => decide (p.1 = s)) = .none) (v : Value) :
    ∃ w', (Instr.mapUpdate t (.map (some b)) (.string s) v).run P w = .ok () w' ∧ MapIs P k w' b (n + 1) (L ++ [(s, v)]) ∧ Below b w w' ∧ w'.heap.size = w.heap.size := by
  obtain ⟨D, ho, h1, h2, h3⟩ := h
  obtain ⟨w', hr, ho', ht'⟩ := ho.store (Maps.string_keyed hk) ht hn (WideMaps.keyOf_string_mk hk hs) (val := v) (d := .held v) (ps := []) rfl
  have hd := ho.tidy (Maps.string_keyed hk)
  have hnot : Maps.has D (klit s) = false := by
    rw [h1 s, List.any_eq_false]; intro p hm; have := List.find?_eq_none.1 hp p hm; simpa using this
  have hkey : WideAt.IsKeyLit (klit s) := trivial
  refine ⟨w', hr, ⟨_, ho', ?_, ?_, ?_⟩, ?_, ?_⟩
  · intro x
    by_cases hx : s = x
    · subst hx
      rw [show Maps.has (D.put (.string s.data.toList) (.held v)) (klit s) = true from Maps.has_put_same hd.isMap hkey _]
      simp
    · rw [show Maps.has (D.put (.string s.data.toList) (.held v)) (klit x) = _ from Maps.has_put_other (fun e => hx (klit_inj e).symm) _, h1 x]
      simp [hx]
  · intro x p hf z
    by_cases hx : s = x
    · subst hx
      rw [List.find?_append, hp] at hf
      simp at hf
      subst hf
      exact Maps.atKey_put_same hd.isMap hkey _ _
    · rw [List.find?_append] at hf
      simp [hx] at hf
      rw [← h2 x p hf z]
      exact Maps.atKey_put_other (fun e => hx (klit_inj e).symm) _ _
  · rw [Maps.size_put hd]
    rw [show Maps.has D (Lit.string s.data.toList) = false from hnot]
    simp [h3]
  · obtain ⟨g1, g2, g3, g4, g5⟩ := ht'.grown
    exact ⟨g1, g2, g3, by omega, fun i hi => g5 i (by have := ho.lt; omega) (by simp; omega)⟩
  · obtain ⟨es, cl, es', cl', hb, rfl⟩ := ht'
    simp [ChangeMaps.setBlock]
end Go.Proofs.Ytmcjchaokpcomaa
