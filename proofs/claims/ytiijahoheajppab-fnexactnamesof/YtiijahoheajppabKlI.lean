/- Whether lists of values are the same: given and landed. The order of values, and the contract of the landed ValLess. The contract of the given ValLess. The order of keys: given and landed. -/
import Derived.Test.YtiijahoheajppabVs
import Derived.Test.YtiijahoheajppabValOk
namespace Go.Proofs.Ytiijahoheajppab
open Go.ChangeShapes Go.WideShapes Go.ChangeAt Go.RowKit

theorem vc_same {c d : Vc} (e0 : (c.ty == d.ty) = true) (e1 : (c.n == d.n) = true) (e2 : (c.s.toList == d.s.toList) = true) : c = d := by
  rw [str_eq] at e2
  cases c; cases d
  simp at e0 e1 e2
  simp [e0, e1, e2]
theorem vc_cases (c d : Vc) : ((c.ty == d.ty) = true ∧ (c.n == d.n) = true ∧ (c.s.toList == d.s.toList) = true ∧ c = d) ∨ (c ≠ d ∧ ((c.ty == d.ty) = false ∨ ((c.ty == d.ty) = true ∧ (c.n == d.n) = false) ∨ ((c.ty == d.ty) = true ∧ (c.n == d.n) = true ∧ (c.s.toList == d.s.toList) = false))) := by
  cases e0 : c.ty == d.ty
  · exact Or.inr ⟨fun e => by subst e; simp at e0, Or.inl rfl⟩
  cases e1 : c.n == d.n
  · exact Or.inr ⟨fun e => by subst e; simp at e1, Or.inr (Or.inl ⟨rfl, rfl⟩)⟩
  cases e2 : c.s.toList == d.s.toList
  · exact Or.inr ⟨fun e => by subst e; simp at e2, Or.inr (Or.inr ⟨rfl, rfl, rfl⟩)⟩
  · exact Or.inl ⟨rfl, rfl, rfl, vc_same e0 e1 e2⟩

end Go.Proofs.Ytiijahoheajppab

namespace Go.Proofs.Ytiijahoheajppab
open Go.ChangeShapes Go.WideShapes Go.ChangeAt Go.RowKit

/-- The order of values. -/
def lessB (t1 n1 : Int) (s1 : ByteArray) (t2 n2 : Int) (s2 : ByteArray) : Bool :=
  if okB t1 n1 s1 = true ∧ okB t2 n2 s2 = true then
    (if t1 = t2 then decide (n1 < n2) || (n1 == n2 && Op.bytesLess s1.toList s2.toList) else decide (t1 < t2))
  else false

theorem less_impl (t1 n1 : Int) (s1 : ByteArray) (t2 n2 : Int) (s2 : ByteArray) (w : World) :
    Calls Try.prog 108 #[V t1 n1 s1, V t2 n2 s2] w fun e w' => e = .returned (.bool (lessB t1 n1 s1 t2 n2 s2)) ∧ Below w.heap.size w w' := by
  cases hk1 : okB t1 n1 s1
  · have HK1 : Hid (okB t1 n1 s1 = _) := hk1
    clear hk1
    go_enter Try.func108, Try.ntmps108
    go_wp2_with (go_at_call 95; refine (ok_impl _ _ _ _).mono ?_; rw [HK1.out]; rintro e w' ⟨rfl, k, rfl⟩)
    go_ret
    exact ⟨by simp [lessB, HK1.out], by repeat (first | exact Below.refl _ _ | refine below_draws _ ?_ | (refine Below.alloc ?_ (by simp <;> omega) _))⟩
  cases hk2 : okB t2 n2 s2
  · have HK1 : Hid (okB t1 n1 s1 = _) := hk1
    have HK2 : Hid (okB t2 n2 s2 = _) := hk2
    clear hk1 hk2
    go_enter Try.func108, Try.ntmps108
    go_wp2_with fail
    refine (ok_impl _ _ _ _).mono ?_
    rw [HK1.out]; rintro e w' ⟨rfl, k, rfl⟩
    go_wp2_with fail
    refine (ok_impl _ _ _ _).mono ?_
    rw [HK2.out]; rintro e w' ⟨rfl, k2, rfl⟩
    go_wp2
    go_ret
    exact ⟨by simp [lessB, HK2.out], by repeat (first | exact Below.refl _ _ | refine below_draws _ ?_ | (refine Below.alloc ?_ (by simp <;> omega) _))⟩
  have HK1 : Hid (okB t1 n1 s1 = _) := hk1
  have HK2 : Hid (okB t2 n2 s2 = _) := hk2
  clear hk1 hk2
  by_cases ht : t1 = t2
  · subst ht
    cases heq : n1 != n2
    all_goals
      go_enter Try.func108, Try.ntmps108
      go_wp2_with fail
      refine (ok_impl _ _ _ _).mono ?_
      rw [HK1.out]; rintro e w' ⟨rfl, k, rfl⟩
      go_wp2_with fail
      refine (ok_impl _ _ _ _).mono ?_
      rw [HK2.out]; rintro e w' ⟨rfl, k2, rfl⟩
      go_wp2
      go_ret
      exact ⟨by simp_all [lessB, Hid], by repeat (first | exact Below.refl _ _ | refine below_draws _ ?_ | (refine Below.alloc ?_ (by simp <;> omega) _))⟩
  · have hne : (t1 != t2) = true := by simp [ht]
    have HT := (show Hid (¬ t1 = t2) from ht)
    clear ht
    go_enter Try.func108, Try.ntmps108
    go_wp2_with fail
    refine (ok_impl _ _ _ _).mono ?_
    rw [HK1.out]; rintro e w' ⟨rfl, k, rfl⟩
    go_wp2_with fail
    refine (ok_impl _ _ _ _).mono ?_
    rw [HK2.out]; rintro e w' ⟨rfl, k2, rfl⟩
    go_wp2
    go_ret
    exact ⟨by simp [lessB, HK1.out, HK2.out, HT.out], by repeat (first | exact Below.refl _ _ | refine below_draws _ ?_ | (refine Below.alloc ?_ (by simp <;> omega) _))⟩
end Go.Proofs.Ytiijahoheajppab

namespace Go.Proofs.Ytiijahoheajppab
open Go.ChangeShapes Go.WideShapes Go.ChangeAt Go.RowKit

theorem less_spec (t1 n1 : Int) (s1 : ByteArray) (t2 n2 : Int) (s2 : ByteArray) (w : World) :
    Calls Try.prog 104 #[V t1 n1 s1, V t2 n2 s2] w fun e w' => e = .returned (.bool (lessB t1 n1 s1 t2 n2 s2)) ∧ Below w.heap.size w w' := by
  cases hk1 : okB t1 n1 s1
  · have HK1 : Hid (okB t1 n1 s1 = _) := hk1
    clear hk1
    go_enter Try.func104, Try.ntmps104
    go_wp2_with (go_at_call 113; refine (ok_spec _ _ _ _).mono ?_; rw [HK1.out]; rintro e w' ⟨rfl, rfl⟩)
    go_ret
    exact ⟨by simp [lessB, HK1.out], by repeat (first | exact Below.refl _ _ | refine below_draws _ ?_ | (refine Below.alloc ?_ (by simp <;> omega) _))⟩
  cases hk2 : okB t2 n2 s2
  · have HK1 : Hid (okB t1 n1 s1 = _) := hk1
    have HK2 : Hid (okB t2 n2 s2 = _) := hk2
    clear hk1 hk2
    go_enter Try.func104, Try.ntmps104
    go_wp2_with fail
    refine (ok_spec _ _ _ _).mono ?_
    rw [HK1.out]; rintro e w' ⟨rfl, rfl⟩
    go_wp2_with fail
    refine (ok_spec _ _ _ _).mono ?_
    rw [HK2.out]; rintro e w' ⟨rfl, rfl⟩
    go_wp2
    go_ret
    exact ⟨by simp [lessB, HK2.out], by repeat (first | exact Below.refl _ _ | refine below_draws _ ?_ | (refine Below.alloc ?_ (by simp <;> omega) _))⟩
  have HK1 : Hid (okB t1 n1 s1 = _) := hk1
  have HK2 : Hid (okB t2 n2 s2 = _) := hk2
  clear hk1 hk2
  by_cases ht : t1 = t2
  · subst ht
    cases hlt : decide (n1 < n2) <;> cases heq : n1 == n2
    all_goals
      go_enter Try.func104, Try.ntmps104
      go_wp2_with fail
      refine (ok_spec _ _ _ _).mono ?_
      rw [HK1.out]; rintro e w' ⟨rfl, rfl⟩
      go_wp2_with fail
      refine (ok_spec _ _ _ _).mono ?_
      rw [HK2.out]; rintro e w' ⟨rfl, rfl⟩
      go_wp2
      go_ret
      exact ⟨by simp_all [lessB, Hid], by repeat (first | exact Below.refl _ _ | refine below_draws _ ?_ | (refine Below.alloc ?_ (by simp <;> omega) _))⟩
  · have hne : (t1 != t2) = true := by simp [ht]
    have HT := (show Hid (¬ t1 = t2) from ht)
    clear ht
    go_enter Try.func104, Try.ntmps104
    go_wp2_with fail
    refine (ok_spec _ _ _ _).mono ?_
    rw [HK1.out]; rintro e w' ⟨rfl, rfl⟩
    go_wp2_with fail
    refine (ok_spec _ _ _ _).mono ?_
    rw [HK2.out]; rintro e w' ⟨rfl, rfl⟩
    go_wp2
    go_ret
    exact ⟨by simp [lessB, HK1.out, HK2.out, HT.out], by repeat (first | exact Below.refl _ _ | refine below_draws _ ?_ | (refine Below.alloc ?_ (by simp <;> omega) _))⟩
end Go.Proofs.Ytiijahoheajppab

namespace Go.Proofs.Ytiijahoheajppab
open Go.ChangeShapes Go.WideShapes Go.ChangeAt Go.RowKit

def Vc.less (a b : Vc) : Bool := lessB a.ty a.n a.s b.ty b.n b.s
/-- The order of keys. -/
def keyLess : List Vc → List Vc → Prop
  | _, [] => False
  | [], _ :: _ => True
  | a :: l, b :: m => (a = b ∧ keyLess l m) ∨ (a ≠ b ∧ a.less b = true)
theorem keyLess_at : ∀ (k : Nat) (l m : List Vc) (hl : k < l.length) (hm : k < m.length), (∀ i (h : i < l.length) (g : i < m.length), i < k → l[i] = m[i]) → l[k] ≠ m[k] → (keyLess l m ↔ l[k].less m[k] = true)
  | 0, a :: l, b :: m, _, _, _, hn => by
    simp only [List.getElem_cons_zero] at hn ⊢
    rw [keyLess]
    exact ⟨fun h => h.elim (fun h => absurd h.1 hn) (fun h => h.2), fun h => Or.inr ⟨hn, h⟩⟩
  | k + 1, a :: l, b :: m, hl, hm, he, hn => by
    have h0 : a = b := he 0 (by simp) (by simp) (by omega)
    subst h0
    have ih := keyLess_at k l m (by simpa using hl) (by simpa using hm) (fun i h g hi => by have := he (i + 1) (by simpa using h) (by simpa using g) (by omega); simpa using this) (by simpa using hn)
    rw [keyLess]
    simp only [List.getElem_cons_succ]
    rw [← ih]
    simp
theorem keyLess_end : ∀ (l m : List Vc), (∀ i (h : i < l.length) (g : i < m.length), l[i] = m[i]) → (keyLess l m ↔ l.length < m.length)
  | l, [], _ => by cases l <;> simp [keyLess]
  | [], b :: m, _ => by simp [keyLess]
  | a :: l, b :: m, he => by
    have h0 : a = b := he 0 (by simp) (by simp)
    subst h0
    have ih := keyLess_end l m fun i h g => by have := he (i + 1) (by simpa using h) (by simpa using g); simpa using this
    rw [keyLess, ih]
    simp

set_option maxRecDepth 100000 in
set_option maxHeartbeats 4000000 in
/-- spec.KeyLess -/
theorem keyLess_spec (av bv : Value) (l m : List Vc) (w : World) (ha : ValsV w av l) (hb : ValsV w bv m) : Calls Try.prog 78 #[av, bv] w fun e w' => ∃ q : Bool, e = .returned (.bool q) ∧ (q = true ↔ keyLess l m) ∧ Below w.heap.size w w' := by
  obtain ⟨a, cap, rfl, hl, hm, hc⟩ := ha
  obtain ⟨a', cap', rfl, hl', hm', hc'⟩ := hb
  unfold maxLen at hm hm'
  have HC : Hid (RowAt w a 3 (l.map Vc.cells)) := hc
  have HC' : Hid (RowAt w a' 3 (m.map Vc.cells)) := hc'
  clear hc hc'
  go_enter Try.func78, Try.ntmps78
  go_wp2
  all_goals
    go_loopw [5] (fun i wr => ∃ k : Nat, k ≤ l.length ∧ k ≤ m.length ∧ i = .int .i64 k ∧ Below w.heap.size w wr ∧ Hid (∀ i (h : i < l.length) (g : i < m.length), i < k → l[i] = m[i])) (fun i _ => l.length - (intOf i).toNat)
    case atStart => exact ⟨0, Nat.zero_le _, Nat.zero_le _, rfl, (by repeat (first | with_reducible exact Below.refl _ _ | with_reducible assumption | with_reducible refine ch_alloc ?_ _ | with_reducible refine Below.drew ?_ | with_reducible refine below_draws _ ?_ | (with_reducible refine Below.setCell ?_ ?_ _; rotate_left; focus (first | with_reducible exact Nat.le_refl _ | (simp; done) | (simp; omega) | (simp at *; omega))) | with_reducible refine ch_trans ?_ (by with_reducible assumption))), fun i h g hi => by omega⟩
    case round =>
      obtain ⟨k, hk, hk', rfl, hb, HN⟩ := hrel
      by_cases hlt : k < l.length ∧ k < m.length
      · obtain ⟨hlt, hlt'⟩ := hlt
        have hlti : (k : Int) < l.length := by omega
        have hlti' : (k : Int) < m.length := by omega
        obtain ⟨b, off, rfl, c0, c1, c2⟩ := (HC.out.on hb).vals k hlt
        obtain ⟨b', off', rfl, d0, d1, d2⟩ := (HC'.out.on hb).vals k hlt'
        rcases vc_cases l[k] m[k] with ⟨e0, e1, e2, he⟩ | ⟨hne, hcs⟩
        · have HN' : Hid (∀ i (h : i < l.length) (g : i < m.length), i < k + 1 → l[i] = m[i]) := fun i h g hi => by
            by_cases e : i = k
            · subst e; exact he
            · exact HN.out i h g (by omega)
          clear he
          go_wp2
          go_region
          all_goals
            go_wp2
            go_round
            case rel => exact ⟨k + 1, by omega, by omega, by go_num, (by repeat (first | with_reducible exact Below.refl _ _ | with_reducible assumption | with_reducible refine ch_alloc ?_ _ | with_reducible refine Below.drew ?_ | with_reducible refine below_draws _ ?_ | (with_reducible refine Below.setCell ?_ ?_ _; rotate_left; focus (first | with_reducible exact Nat.le_refl _ | (simp; done) | (simp; omega) | (simp at *; omega))) | with_reducible refine ch_trans ?_ (by with_reducible assumption))), HN'⟩
            case measure => simp [intOf]; omega
        · have HQ : Hid (keyLess l m ↔ l[k].less m[k] = true) := keyLess_at k l m hlt hlt' HN.out hne
          have HS : Hid (∀ u : World, Calls Try.prog 104 #[V l[k].ty l[k].n l[k].s, V m[k].ty m[k].n m[k].s] u fun e w' => e = .returned (.bool (l[k].less m[k])) ∧ Below u.heap.size u w') := fun u => less_spec _ _ _ _ _ _ u
          generalize l[k].less m[k] = q at HQ HS
          clear hne HN
          rcases hcs with e0 | ⟨e0, e1⟩ | ⟨e0, e1, e2⟩
          all_goals
            go_wp2_with fail
            go_region
            all_goals
              go_wp2_with fail
              go_region_with (go_at_call 104; refine (HS.out _).mono ?_; rintro e w1 ⟨rfl, b1⟩)
              all_goals
                go_wp2
                go_ret
                exact ⟨_, rfl, HQ.out.symm, (by repeat (first | with_reducible exact Below.refl _ _ | with_reducible assumption | with_reducible refine ch_alloc ?_ _ | with_reducible refine Below.drew ?_ | with_reducible refine below_draws _ ?_ | (with_reducible refine Below.setCell ?_ ?_ _; rotate_left; focus (first | with_reducible exact Nat.le_refl _ | (simp; done) | (simp; omega) | (simp at *; omega))) | with_reducible refine ch_trans ?_ (by with_reducible assumption)))⟩
      · have HQ : Hid (keyLess l m ↔ l.length < m.length) := keyLess_end l m fun i h g => HN.out i h g (by omega)
        have HZ : Hid (decide (l.length < m.length) = true ↔ keyLess l m) := by show _ ↔ _; rw [HQ.out]; simp
        by_cases h1 : k < l.length
        · have hlti : (k : Int) < l.length := by omega
          have hlti' : (m.length : Int) ≤ k := by omega
          clear hlt
          go_wp2
          go_ret
          exact ⟨_, rfl, HZ.out, (by repeat (first | with_reducible exact Below.refl _ _ | with_reducible assumption | with_reducible refine ch_alloc ?_ _ | with_reducible refine Below.drew ?_ | with_reducible refine below_draws _ ?_ | (with_reducible refine Below.setCell ?_ ?_ _; rotate_left; focus (first | with_reducible exact Nat.le_refl _ | (simp; done) | (simp; omega) | (simp at *; omega))) | with_reducible refine ch_trans ?_ (by with_reducible assumption)))⟩
        · have hlti : (l.length : Int) ≤ k := by omega
          clear hlt
          go_wp2
          go_ret
          exact ⟨_, rfl, HZ.out, (by repeat (first | with_reducible exact Below.refl _ _ | with_reducible assumption | with_reducible refine ch_alloc ?_ _ | with_reducible refine Below.drew ?_ | with_reducible refine below_draws _ ?_ | (with_reducible refine Below.setCell ?_ ?_ _; rotate_left; focus (first | with_reducible exact Nat.le_refl _ | (simp; done) | (simp; omega) | (simp at *; omega))) | with_reducible refine ch_trans ?_ (by with_reducible assumption)))⟩

end Go.Proofs.Ytiijahoheajppab
