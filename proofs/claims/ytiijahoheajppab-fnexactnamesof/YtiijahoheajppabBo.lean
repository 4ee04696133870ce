/- The landed order of rows by their keys: compare. The landed search of a row by its key: find. Whether a value may stand in a column, given and landed. A Bool for a Prop. -/
import Derived.Test.YtiijahoheajppabKg
import Derived.Test.YtiijahoheajppabKv
import Derived.Test.YtiijahoheajppabKlI
import Derived.Test.YtiijahoheajppabGr
import Derived.Test.YtiijahoheajppabRs
import Derived.Deep.LoopGhost
import Derived.WalkMore
import Derived.Test.YtiijahoheajppabVs
import Derived.Test.YtiijahoheajppabValOk
import Derived.Test.YtiijahoheajppabCh
namespace Go.Proofs.Ytiijahoheajppab
open Go.ChangeShapes Go.WideShapes Go.ChangeAt Go.RowKit

theorem valsAt_get {is : List Int} {vs : List Vc} {k i : Nat} (hk : k < is.length) (he : is[k] = (i : Int)) (hi : i < vs.length) (h : k < (valsAt is vs).length) : (valsAt is vs)[k] = vs[i] := by
  simp [valsAt, he, hi]

def Vc.same (a b : Vc) : Bool := (a.ty == b.ty) && (a.n == b.n) && (a.s.toList == b.s.toList)
theorem Vc.same_iff (a b : Vc) : a.same b = true ↔ a = b := by
  rcases vc_cases a b with ⟨_, _, _, he⟩ | ⟨hne, _⟩
  · subst he; simp [Vc.same]
  · constructor
    · intro h
      simp only [Vc.same, Bool.and_eq_true] at h
      exact absurd (vc_same h.1.1 h.1.2 h.2) hne
    · exact fun h => absurd h hne
/-- How the landed program tells the order of two keys. -/
def cmpL : List Vc → List Vc → Int
  | a :: l, b :: m => if a.same b then cmpL l m else if a.less b then -1 else 1
  | _, _ => 0
theorem cmpL_at : ∀ (k : Nat) (l m : List Vc) (hl : k < l.length) (hm : k < m.length), (∀ i (h : i < l.length) (g : i < m.length), i < k → l[i] = m[i]) → l[k] ≠ m[k] → cmpL l m = if l[k].less m[k] then -1 else 1
  | 0, a :: l, b :: m, _, _, _, hn => by
    simp only [List.getElem_cons_zero] at hn ⊢
    rw [cmpL, if_neg (by rw [Vc.same_iff]; exact hn)]
  | k + 1, a :: l, b :: m, hl, hm, he, hn => by
    have h0 : a = b := he 0 (by simp) (by simp) (by omega)
    have ih := cmpL_at k l m (by simpa using hl) (by simpa using hm) (fun i h g hi => by have := he (i + 1) (by simpa using h) (by simpa using g) (by omega); simpa using this) (by simpa using hn)
    rw [cmpL, if_pos ((Vc.same_iff a b).2 h0), ih]
    simp
theorem cmpL_end : ∀ (l m : List Vc), (∀ i (h : i < l.length) (g : i < m.length), l[i] = m[i]) → cmpL l m = 0
  | [], _, _ => by rw [cmpL]; simp
  | _ :: _, [], _ => by rw [cmpL]; simp
  | a :: l, b :: m, he => by
    have h0 : a = b := he 0 (by simp) (by simp)
    rw [cmpL, if_pos ((Vc.same_iff a b).2 h0)]
    exact cmpL_end l m fun i h g => by have := he (i + 1) (by simpa using h) (by simpa using g); simpa using this
theorem cmpL_less : ∀ (l m : List Vc), l.length = m.length → (cmpL l m < 0 ↔ keyLess l m)
  | [], [], _ => by simp [cmpL, keyLess]
  | a :: l, b :: m, h => by
    have ih := cmpL_less l m (by simpa using h)
    by_cases h0 : a = b
    · rw [cmpL, if_pos ((Vc.same_iff a b).2 h0), keyLess, ih]
      simp [h0]
    · rw [cmpL, if_neg (by rw [Vc.same_iff]; exact h0), keyLess]
      cases a.less b <;> simp [h0]

set_option maxRecDepth 100000 in
set_option maxHeartbeats 4000000 in
/-- (impl.keyPlaces).compare -/
theorem compare_any (pv : Value) (is : List Int) (av bv : Value) (l m : List Vc) (w : World) (hp : IntsV w pv is) (ha : ValsV w av l) (hb : ValsV w bv m) (hl : within' is l.length) (hm : within' is m.length) :
    Calls Try.prog 83 #[pv, .agg #[av], .agg #[bv]] w fun e w' => e = .returned (.int .i64 (cmpL (valsAt is l) (valsAt is m))) ∧ Below w.heap.size w w' := by
  obtain ⟨a, p, rfl, _, hm0, hp⟩ := hp.lit
  obtain ⟨a1, p1, rfl, _, hm1, ha⟩ := ha.lit
  obtain ⟨a2, p2, rfl, _, hm2, hb⟩ := hb.lit
  unfold maxLen at hm0 hm1 hm2
  have HP : Hid (RowAt w a 1 (is.map intX)) := hp.row
  have HA : Hid (RowAt w a1 3 (l.map Vc.cells)) := ha.row
  have HB : Hid (RowAt w a2 3 (m.map Vc.cells)) := hb.row
  have HW : Hid (within' is l.length ∧ within' is m.length) := ⟨hl, hm⟩
  have HL := Loc.new w #[.slice a1 l.length p1] 52
  have HM := Loc.new (w.alloc (.cells #[.slice a1 l.length p1] 52)) #[.slice a2 m.length p2] 52
  rw [show (w.alloc (.cells #[.slice a1 l.length p1] 52)).heap.size = w.heap.size + 1 from by simp] at HM
  have HL2 := HL.on1 (.cells #[.slice a2 m.length p2] 52)
  clear hp ha hb hl hm HL
  go_enter Try.func83, Try.ntmps83
  go_wp2
  have hb0 : Below w.heap.size w ((w.alloc (.cells #[.slice a1 l.length p1] 52)).alloc (.cells #[.slice a2 m.length p2] 52)) := (by repeat (first | with_reducible exact Below.refl _ _ | with_reducible assumption | with_reducible refine ch_alloc ?_ _ | with_reducible refine Below.drew ?_ | with_reducible refine below_draws _ ?_ | (with_reducible refine Below.setCell ?_ ?_ _; rotate_left; focus (first | with_reducible exact Nat.le_refl _ | (simp; done) | (simp; omega) | (simp at *; omega))) | with_reducible refine ch_trans ?_ (by with_reducible assumption)))
  generalize ((w.alloc (.cells #[.slice a1 l.length p1] 52)).alloc (.cells #[.slice a2 m.length p2] 52)) = wz at HL2 HM hb0 ⊢
  have hln : (valsAt is l).length = is.length ∧ (valsAt is m).length = is.length := by simp [valsAt]
  have HLN : Hid ((valsAt is l).length = is.length ∧ (valsAt is m).length = is.length) := hln
  clear hln
  go_loopw [11] (fun i wr => ∃ k : Nat, k ≤ is.length ∧ i = .int .i64 k ∧ Below wz.heap.size wz wr ∧ Hid (∀ i (h : i < (valsAt is l).length) (g : i < (valsAt is m).length), i < k → (valsAt is l)[i] = (valsAt is m)[i])) (fun i _ => is.length - (intOf i).toNat)
  case atStart => exact ⟨0, Nat.zero_le _, rfl, Below.refl _ _, fun i h g hi => by omega⟩
  case round =>
    obtain ⟨k, hk, rfl, hbz, HN⟩ := hrel
    have hbw : Below w.heap.size w wr := ch_trans hb0 hbz
    have l0 := (HL2.on hbz).one
    have m0 := (HM.on hbz).one
    by_cases hlt : k < is.length
    · have hlti : (k : Int) < is.length := by omega
      obtain ⟨b, off, rfl, c0⟩ := (HP.out.on hbw).ints k hlt
      obtain ⟨i, hi, hci⟩ := HW.out.1 k hlt
      obtain ⟨i', hi', hci'⟩ := HW.out.2 k hlt
      obtain rfl : i' = i := by omega
      have hii : (i' : Int) < l.length := by omega
      have hii' : (i' : Int) < m.length := by omega
      have hkl : k < (valsAt is l).length := by have := HLN.out; omega
      have hkm : k < (valsAt is m).length := by have := HLN.out; omega
      have HVL : Hid ((valsAt is l)[k] = l[i']) := valsAt_get hlt hci hi hkl
      have HVM : Hid ((valsAt is m)[k] = m[i']) := valsAt_get hlt hci hi' hkm
      rw [hci] at c0
      obtain ⟨b1, off1, rfl, d0, d1, d2⟩ := (HA.out.on hbw).vals i' hi
      obtain ⟨b2, off2, rfl, f0, f1, f2⟩ := (HB.out.on hbw).vals i' hi'
      clear hci hci'
      rcases vc_cases l[i'] m[i'] with ⟨e0, e1, e2, he⟩ | ⟨hne, hcs⟩
      · have HN' : Hid (∀ i (h : i < (valsAt is l).length) (g : i < (valsAt is m).length), i < k + 1 → (valsAt is l)[i] = (valsAt is m)[i]) := fun i h g hi => by
          by_cases e : i = k
          · subst e; rw [HVL.out, HVM.out]; exact he
          · exact HN.out i h g (by omega)
        clear he
        go_wp2_with fail
        refine region_grown (by kernel_rfl) (by kernel_rfl) ?_
        repeat (go_big_quiet_step ((intro hu; have n0 := hu.cell l0; have n1 := hu.cell m0; have n2 := hu.cell d0; have n3 := hu.cell d1; have n4 := hu.cell d2; have n5 := hu.cell f0; have n6 := hu.cell f1; have n7 := hu.cell f2; go_simp; (try exact rfl))))
        refine wpQuiet_nil ?_
        intro w1 b1
        have b1 : Below wr.heap.size wr w1 := b1
        go_wp2
        go_round
        case rel => exact ⟨k + 1, by omega, by go_num, ch_trans hbz b1, HN'⟩
        case measure => simp [intOf]; omega
      · have HQ : Hid (cmpL (valsAt is l) (valsAt is m) = if l[i'].less m[i'] then -1 else 1) := by
          have := cmpL_at k (valsAt is l) (valsAt is m) hkl hkm HN.out (by rw [HVL.out, HVM.out]; exact hne)
          rw [HVL.out, HVM.out] at this
          exact this
        have HS : Hid (∀ u : World, Calls Try.prog 108 #[V l[i'].ty l[i'].n l[i'].s, V m[i'].ty m[i'].n m[i'].s] u fun e w' => e = .returned (.bool (l[i'].less m[i'])) ∧ Below u.heap.size u w') := fun u => less_impl _ _ _ _ _ _ u
        generalize l[i'].less m[i'] = q at HQ HS
        clear hne HN
        rcases hcs with e0 | ⟨e0, e1⟩ | ⟨e0, e1, e2⟩
        all_goals
          go_wp2_with fail
          refine region_grown (by kernel_rfl) (by kernel_rfl) ?_
          repeat (go_big_quiet_step ((intro hu; have n0 := hu.cell l0; have n1 := hu.cell m0; have n2 := hu.cell d0; have n3 := hu.cell d1; have n4 := hu.cell d2; have n5 := hu.cell f0; have n6 := hu.cell f1; have n7 := hu.cell f2; go_simp; (try exact rfl))))
          refine wpQuiet_nil ?_
          intro w1 b1
          have b1 : Below wr.heap.size wr w1 := b1
          have bw1 : Below w.heap.size w w1 := ch_trans hbw b1
          have l1 := cell_on l0 b1
          have m1 := cell_on m0 b1
          have g0 := cell_on d0 b1
          have g1 := cell_on d1 b1
          have g2 := cell_on d2 b1
          have g3 := cell_on f0 b1
          have g4 := cell_on f1 b1
          have g5 := cell_on f2 b1
          go_wp2_with fail
          refine region_grown (by kernel_rfl) (by kernel_rfl) ?_
          repeat (go_big_quiet_step (first | (intro hu; go_at_call 108; exact hu.call (HS.out _)) | (intro hu; have n0 := hu.cell l1; have n1 := hu.cell m1; have n2 := hu.cell g0; have n3 := hu.cell g1; have n4 := hu.cell g2; have n5 := hu.cell g3; have n6 := hu.cell g4; have n7 := hu.cell g5; go_simp; (try exact rfl))))
          refine wpQuiet_nil ?_
          intro w2 b2
          have b2 : Below w1.heap.size w1 w2 := b2
          cases q
          · go_wp2
            go_ret
            exact ⟨by rw [HQ.out]; rfl, ch_trans bw1 b2⟩
          · go_wp2
            go_ret
            exact ⟨by rw [HQ.out]; rfl, ch_trans bw1 b2⟩
    · have hlti : (is.length : Int) ≤ k := by omega
      have HZ : Hid (cmpL (valsAt is l) (valsAt is m) = 0) := cmpL_end _ _ fun i h g => HN.out i h g (by have := HLN.out; omega)
      go_wp2
      go_ret
      exact ⟨by rw [HZ.out]; rfl, hbw⟩
end Go.Proofs.Ytiijahoheajppab

namespace Go.Proofs.Ytiijahoheajppab
open Go.ChangeShapes Go.WideShapes Go.ChangeAt Go.RowKit

/-- The first place of a key among keys; -1 where there is none. -/
def IsAt (ks : List (List Vc)) (key : List Vc) (r : Int) : Prop := (r = -1 ∧ ∀ i (h : i < ks.length), ks[i] ≠ key) ∨ ∃ k : Nat, ∃ h : k < ks.length, r = k ∧ ks[k] = key ∧ ∀ i (g : i < ks.length), i < k → ks[i] ≠ key
theorem isAt_one {ks : List (List Vc)} {key : List Vc} {r s : Int} (h : IsAt ks key r) (g : IsAt ks key s) : r = s := by
  rcases h with ⟨rfl, h⟩ | ⟨k, hk, rfl, he, hn⟩
  · rcases g with ⟨rfl, _⟩ | ⟨j, hj, rfl, he', _⟩
    · rfl
    · exact absurd he' (h j hj)
  · rcases g with ⟨rfl, g⟩ | ⟨j, hj, rfl, he', hn'⟩
    · exact absurd he (g k hk)
    · by_cases h1 : k < j
      · exact absurd he (hn' k hk h1)
      · by_cases h2 : j < k
        · exact absurd he' (hn j hj h2)
        · have : k = j := by omega
          rw [this]

end Go.Proofs.Ytiijahoheajppab

namespace Go.Proofs.Ytiijahoheajppab
open Go.ChangeShapes Go.WideShapes Go.ChangeAt Go.RowKit

/-- Whether a value may stand in a column. -/
def fitsB (c : Cl) (v : Vc) : Bool := okB v.ty v.n v.s && (if v.ty = 0 then !c.nt else v.ty == c.ty)

set_option maxRecDepth 100000 in
/-- spec.l03Fits -/
theorem fits_spec (c : Cl) (v : Vc) (w : World) : Calls Try.prog 100 #[c.v, v.v] w fun e w' => e = .returned (.bool (fitsB c v)) ∧ Below w.heap.size w w' := by
  obtain ⟨ty, n, s⟩ := v
  have HS : Hid (∀ w : World, Calls Try.prog 113 #[V ty n s] w fun e w' => e = .returned (.bool (okB ty n s)) ∧ w' = w.alloc (cellsV ty n s)) := fun w => ok_spec ty n s w
  have HD : Hid (fitsB c ⟨ty, n, s⟩ = (okB ty n s && (if ty = 0 then !c.nt else ty == c.ty))) := rfl
  generalize okB ty n s = q at HS HD
  generalize fitsB c ⟨ty, n, s⟩ = R at HD ⊢
  by_cases h0 : ty = 0
  · subst h0
    cases q <;> cases hn : c.nt
    all_goals
      have HR := HD.out
      rw [if_pos rfl, hn] at HR
      have HR' : Hid (R = _) := HR
      clear HR HD
      go_enter Try.func100, Try.ntmps100
      go_wp2_with (go_at_call 113; refine (HS.out _).mono ?_; rintro e w1 ⟨rfl, rfl⟩)
      go_ret
      exact ⟨by rw [HR'.out]; rfl, (by repeat (first | with_reducible exact Below.refl _ _ | with_reducible assumption | with_reducible refine ch_alloc ?_ _ | with_reducible refine Below.drew ?_ | with_reducible refine below_draws _ ?_ | (with_reducible refine Below.setCell ?_ ?_ _; rotate_left; focus (first | with_reducible exact Nat.le_refl _ | (simp; done) | (simp; omega) | (simp at *; omega))) | with_reducible refine ch_trans ?_ (by with_reducible assumption)))⟩
  · have h0' : (ty == 0) = false := by simpa using h0
    cases q <;> cases ht : ty == c.ty
    all_goals
      have HR := HD.out
      rw [if_neg h0, ht] at HR
      have HR' : Hid (R = _) := HR
      clear HR HD
      go_enter Try.func100, Try.ntmps100
      go_wp2_with (go_at_call 113; refine (HS.out _).mono ?_; rintro e w1 ⟨rfl, rfl⟩)
      go_ret
      exact ⟨by rw [HR'.out]; rfl, (by repeat (first | with_reducible exact Below.refl _ _ | with_reducible assumption | with_reducible refine ch_alloc ?_ _ | with_reducible refine Below.drew ?_ | with_reducible refine below_draws _ ?_ | (with_reducible refine Below.setCell ?_ ?_ _; rotate_left; focus (first | with_reducible exact Nat.le_refl _ | (simp; done) | (simp; omega) | (simp at *; omega))) | with_reducible refine ch_trans ?_ (by with_reducible assumption)))⟩

set_option maxRecDepth 100000 in
/-- impl.mayStandIn -/
theorem fits_impl (c : Cl) (v : Vc) (w : World) : Calls Try.prog 75 #[c.v, v.v] w fun e w' => e = .returned (.bool (fitsB c v)) ∧ Below w.heap.size w w' := by
  obtain ⟨ty, n, s⟩ := v
  have HS : Hid (∀ w : World, Calls Try.prog 95 #[V ty n s] w fun e w' => e = .returned (.bool (okB ty n s)) ∧ ∃ k, w' = ((w.alloc (cellsV ty n s)).alloc (cellsV ty n s)).drewN k) := fun w => ok_impl ty n s w
  have HD : Hid (fitsB c ⟨ty, n, s⟩ = (okB ty n s && (if ty = 0 then !c.nt else ty == c.ty))) := rfl
  generalize okB ty n s = q at HS HD
  generalize fitsB c ⟨ty, n, s⟩ = R at HD ⊢
  by_cases h0 : ty = 0
  · subst h0
    cases q <;> cases hn : c.nt
    all_goals
      have HR := HD.out
      rw [if_pos rfl, hn] at HR
      have HR' : Hid (R = _) := HR
      clear HR HD
      go_enter Try.func75, Try.ntmps75
      go_wp2_with (go_at_call 95; refine (HS.out _).mono ?_; rintro e w1 ⟨rfl, k, rfl⟩)
      go_ret
      exact ⟨by rw [HR'.out]; rfl, (by repeat (first | with_reducible exact Below.refl _ _ | with_reducible assumption | with_reducible refine ch_alloc ?_ _ | with_reducible refine Below.drew ?_ | with_reducible refine below_draws _ ?_ | (with_reducible refine Below.setCell ?_ ?_ _; rotate_left; focus (first | with_reducible exact Nat.le_refl _ | (simp; done) | (simp; omega) | (simp at *; omega))) | with_reducible refine ch_trans ?_ (by with_reducible assumption)))⟩
  · have h0' : (ty == 0) = false := by simpa using h0
    cases q <;> cases ht : ty == c.ty
    all_goals
      have HR := HD.out
      rw [if_neg h0, ht] at HR
      have HR' : Hid (R = _) := HR
      clear HR HD
      go_enter Try.func75, Try.ntmps75
      go_wp2_with (go_at_call 95; refine (HS.out _).mono ?_; rintro e w1 ⟨rfl, k, rfl⟩)
      go_ret
      exact ⟨by rw [HR'.out]; rfl, (by repeat (first | with_reducible exact Below.refl _ _ | with_reducible assumption | with_reducible refine ch_alloc ?_ _ | with_reducible refine Below.drew ?_ | with_reducible refine below_draws _ ?_ | (with_reducible refine Below.setCell ?_ ?_ _; rotate_left; focus (first | with_reducible exact Nat.le_refl _ | (simp; done) | (simp; omega) | (simp at *; omega))) | with_reducible refine ch_trans ?_ (by with_reducible assumption)))⟩
end Go.Proofs.Ytiijahoheajppab

namespace Go.Proofs.Ytiijahoheajppab
theorem bool_of (p : Prop) : ∃ q : Bool, q = true ↔ p := by
  by_cases h : p
  · exact ⟨true, by simp [h]⟩
  · exact ⟨false, by simp [h]⟩
end Go.Proofs.Ytiijahoheajppab
