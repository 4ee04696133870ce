/- The landed reading of a text within quotes. -/
import Derived.Test.YtmkgbdgafjeeiamDoorUnesc
namespace Go.Proofs.YtmkgbdgafjeeiamDoor
open Go.ChangeShapes Go.WideShapes Go.ChangeAt Go.RowKit

/-- What is written for bytes. -/
def E (r : List UInt8) : List UInt8 := r.flatMap escB
theorem E_app (a b : List UInt8) : E (a ++ b) = E a ++ E b := by unfold E; rw [List.flatMap_append]
theorem E_one (c : UInt8) : E [c] = escB c := by simp [E]
/-- So far, of every text that may have been written. -/
def St (l : List UInt8) (k : Nat) (o : List UInt8) : Prop := ∀ r, l = E r → ∃ r2, r = o ++ r2 ∧ (E o).length = k
theorem St.zero (l : List UInt8) : St l 0 [] := fun r _ => ⟨r, rfl, rfl⟩
theorem St.next {l : List UInt8} {k : Nat} {o : List UInt8} (h : St l k o) (hk : k < l.length) (r : List UInt8) (hr : l = E r) :
    ∃ c r3, r = o ++ c :: r3 ∧ (E o).length = k ∧ l = E o ++ (escB c ++ E r3) := by
  obtain ⟨r2, rfl, hk'⟩ := h r hr
  cases r2 with
  | nil =>
    rw [List.append_nil] at hr
    rw [hr] at hk
    omega
  | cons c r3 =>
    refine ⟨c, r3, rfl, hk', ?_⟩
    rw [hr, E_app, show (c :: r3) = [c] ++ r3 from rfl, E_app, E_one]
theorem at_app (a b : List UInt8) (k : Nat) (h : a.length = k) (j : Nat) : (a ++ b)[k + j]? = b[j]? := by
  rw [List.getElem?_append_right (by omega)]
  congr 1
  omega
theorem St.plain {l : List UInt8} {k : Nat} {o : List UInt8} (h : St l k o) (x : UInt8) (hx : l[k]? = some x) (h37 : (x.toNat : Int) ≠ 37) : St l (k + 1) (o ++ [x]) := by
  intro r hr
  have hk : k < l.length := (List.getElem?_eq_some_iff.1 hx).1
  obtain ⟨c, r3, rfl, hk', hl⟩ := h.next hk r hr
  have e0 : l[k]? = (escB c ++ E r3)[0]? := by rw [hl]; exact at_app _ _ k hk' 0
  by_cases hp : plainB c = true
  · rw [escB, if_pos hp] at e0
    simp only [List.cons_append, List.getElem?_cons_zero] at e0
    rw [hx] at e0
    cases e0
    exact ⟨r3, by simp, by rw [E_app, E_one, escB, if_pos hp, List.length_append, hk']; rfl⟩
  · rw [escB, if_neg hp] at e0
    simp only [List.cons_append, List.getElem?_cons_zero] at e0
    rw [hx] at e0
    cases e0
    exact absurd rfl h37
theorem St.esc {l : List UInt8} {k : Nat} {o : List UInt8} (h : St l k o) (x : UInt8) (hx : l[k]? = some x) (h37 : (x.toNat : Int) = 37) (r : List UInt8) (hr : l = E r) :
    ∃ c r3, r = o ++ c :: r3 ∧ (E (o ++ [c])).length = k + 3 ∧ l[k + 1]? = some (hexB (c.toNat / 16)) ∧ l[k + 2]? = some (hexB (c.toNat % 16)) := by
  have hk : k < l.length := (List.getElem?_eq_some_iff.1 hx).1
  obtain ⟨c, r3, rfl, hk', hl⟩ := h.next hk r hr
  have e0 : l[k]? = (escB c ++ E r3)[0]? := by rw [hl]; exact at_app _ _ k hk' 0
  by_cases hp : plainB c = true
  · rw [escB, if_pos hp] at e0
    simp only [List.cons_append, List.getElem?_cons_zero] at e0
    rw [hx] at e0
    cases e0
    exact absurd h37 (plain_not37 _ hp)
  · refine ⟨c, r3, rfl, ?_, ?_, ?_⟩
    · rw [E_app, E_one, escB, if_neg hp, List.length_append, hk']; rfl
    · rw [hl, at_app _ _ k hk' 1, escB, if_neg hp]; rfl
    · rw [hl, at_app _ _ k hk' 2, escB, if_neg hp]; rfl
theorem St.byte {l : List UInt8} {k : Nat} {o : List UInt8} (h : St l k o) (x a b y : UInt8) (hx : l[k]? = some x) (h37 : (x.toNat : Int) = 37) (ha : l[k + 1]? = some a) (hb : l[k + 2]? = some b) (hy : hexByteF a b = some y) : St l (k + 3) (o ++ [y]) := by
  intro r hr
  obtain ⟨c, r3, rfl, e1, e2, e3⟩ := h.esc x hx h37 r hr
  rw [ha] at e2
  rw [hb] at e3
  cases e2
  cases e3
  rw [hexByteF_of] at hy
  cases hy
  exact ⟨r3, by simp, e1⟩
theorem St.no {l : List UInt8} {k : Nat} {o : List UInt8} (h : St l k o) (x : UInt8) (hx : l[k]? = some x) (h37 : (x.toNat : Int) = 37) (hn : ∀ a b y, l[k + 1]? = some a → l[k + 2]? = some b → hexByteF a b ≠ some y) : ∀ r, l ≠ E r := by
  intro r hr
  obtain ⟨c, r3, rfl, e1, e2, e3⟩ := h.esc x hx h37 r hr
  exact hn _ _ _ e2 e3 (hexByteF_of c)
theorem St.last {l : List UInt8} {k : Nat} {o : List UInt8} (h : St l k o) (hk : l.length ≤ k) : ∀ r, l = E r → r = o := by
  intro r hr
  obtain ⟨r2, rfl, hk'⟩ := h r hr
  cases r2 with
  | nil => simp
  | cons c r3 =>
    exfalso
    have h1 : l.length = (E o).length + ((escB c).length + (E r3).length) := by rw [hr, E_app, show (c :: r3) = [c] ++ r3 from rfl, E_app, E_one]; simp
    have h2 : 1 ≤ (escB c).length := by unfold escB; split <;> simp
    omega
theorem hbV_extract (s : ByteArray) (k : Nat) (hk : k < s.size) : ∀ y, hbV (s.extract (k + 1) s.size) = some y ↔ ∃ a b, s.data.toList[k + 1]? = some a ∧ s.data.toList[k + 2]? = some b ∧ hexByteF a b = some y := by
  intro y
  have hsz : (s.extract (k + 1) s.size).size = s.size - (k + 1) := by simp
  unfold hbV
  by_cases h : 1 < (s.extract (k + 1) s.size).size
  · rw [dif_pos h]
    have h2 : k + 2 < s.size := by omega
    have e0 : (s.extract (k + 1) s.size)[0]'(by omega) = s[k + 1]'(by omega) := by rw [ByteArray.getElem_extract]
    have e1 : (s.extract (k + 1) s.size)[1]'h = s[k + 2]'h2 := by rw [ByteArray.getElem_extract]
    rw [e0, e1]
    have f0 : s.data.toList[k + 1]? = some (s[k + 1]'(by omega)) := by rw [List.getElem?_eq_getElem (by simp; omega)]; rfl
    have f1 : s.data.toList[k + 2]? = some (s[k + 2]'h2) := by rw [List.getElem?_eq_getElem (by simp; omega)]; rfl
    rw [f0, f1]
    constructor
    · intro hy; exact ⟨_, _, rfl, rfl, hy⟩
    · rintro ⟨a, b, ha, hb, hy⟩; cases ha; cases hb; exact hy
  · rw [dif_neg h]
    constructor
    · intro hy; cases hy
    · rintro ⟨a, b, ha, hb, hy⟩
      have := (List.getElem?_eq_some_iff.1 hb).1
      simp at this
      omega

theorem get_at (s : ByteArray) (k : Nat) (h : k < s.size) : s.data.toList[k]? = some s[k] := by
  rw [List.getElem?_eq_getElem (by simpa using h)]; rfl
theorem mk_size (l : List UInt8) : (⟨l.toArray⟩ : ByteArray).size = l.length := by simp [ByteArray.size]
/-- What unescape answers, as far as it is needed. -/
def UnRes (s : ByteArray) (u : ByteArray) (b : Bool) : Prop := u.size ≤ s.size ∧ ∀ r, s.data.toList = E r → u = ⟨r.toArray⟩ ∧ b = true

set_option maxRecDepth 100000 in
set_option maxHeartbeats 1000000 in
/-- impl.unescape -/
theorem unescape_impl (s : ByteArray) (hs : s.size ≤ 1048576) (w : World) : Calls Tryd.prog 50 #[.string s] w fun e w' => ∃ u b, e = .returned (.tuple #[.string u, .bool b]) ∧ UnRes s u b ∧ Below w.heap.size w w' := by
  go_enter Tryd.func50, Tryd.ntmps50
  go_wp2
  go_loopw [4, 5] (fun v i wr => ∃ (k : Nat) (o : List UInt8), k ≤ s.size ∧ i = .int .i64 k ∧ o.length ≤ k ∧ OwnT w.heap.size wr v o ∧ Below w.heap.size w wr ∧ St s.data.toList k o) (fun _ i _ => s.size - (intOf i).toNat)
  case atStart => exact ⟨0, [], Nat.zero_le _, rfl, Nat.le_refl _, own_nil _ _, Below.refl _ _, St.zero _⟩
  case round =>
    obtain ⟨k, o, hk, rfl, hol, hown, hbel, HS⟩ := hrel
    have hz := hbel.size
    by_cases hlt : k < s.size
    · have hx := get_at s k hlt
      by_cases h37 : (s[k].toNat : Int) = 37
      · have d37 : ((s[k].toNat : Int) != 37) = false := by simp [h37]
        have HB : Hid (∀ w : World, Calls Tryd.prog 53 #[.string (s.extract (k + 1) s.size)] w fun e w' => e = .returned (.tuple #[.int .u8 ((hbV (s.extract (k + 1) s.size)).getD 0).toNat, .bool (hbV (s.extract (k + 1) s.size)).isSome]) ∧ w' = w) := fun w => hexByte_impl _ (by simp; omega) w
        have hbx := hbV_extract s k hlt
        cases hv : hbV (s.extract (k + 1) s.size) with
        | none =>
          rw [hv] at HB
          have HN : Hid (∀ r, s.data.toList ≠ E r) := HS.no _ hx h37 (fun a b y ha hb hy => by
            have := (hbx y).2 ⟨a, b, ha, hb, hy⟩
            rw [hv] at this; cases this)
          clear hbx hv hx h37 HS
          go_wp2_with (go_at_call 53; refine (HB.out _).mono ?_; rintro e w' ⟨rfl, hw⟩; subst w')
          go_ret2
          exact ⟨_, _, rfl, ⟨Nat.zero_le _, fun r hr => absurd hr (HN.out r)⟩, hbel⟩
        | some y =>
          rw [hv] at HB
          obtain ⟨a, b, ha, hb, hy⟩ := (hbx y).1 hv
          have h3 : k + 3 ≤ s.size := by have := (List.getElem?_eq_some_iff.1 hb).1; simp at this; omega
          have HN : St s.data.toList (k + 3) (o ++ [y]) := HS.byte _ a b y hx h37 ha hb hy
          clear hbx hv hx h37 HS ha hb hy
          go_wp2_with (first | (go_at_call 53; refine (HB.out _).mono ?_; rintro e w' ⟨rfl, hw⟩; subst w') | (at_builtin; refine app_list rfl (.tmp 34) (.tmp 36) rfl w.heap.size _ o rfl (hown.alloc _) ⟨wr.heap.size, 0, none⟩ 1 1 [y] rfl rfl (cells1_new _ _ _) (by omega) (by simp; omega) ?_; intro v' w1 hown1 hb1))
          go_roundw
          case rel => exact ⟨k + 3, o ++ [y], by omega, by go_num, by simp; omega, hown1, (hbel.alloc hz _).trans hb1, HN⟩
          case measure => simp [intOf]; omega
      · have d37 : ((s[k].toNat : Int) != 37) = true := by simp [h37]
        have HN : St s.data.toList (k + 1) (o ++ [s[k]]) := HS.plain _ hx h37
        clear hx h37 HS
        go_wp2_with (first | (at_builtin; refine app_list rfl (.tmp 18) (.tmp 22) rfl w.heap.size _ o rfl (hown.alloc _) ⟨wr.heap.size, 0, none⟩ 1 1 [s[k]] rfl rfl (cells1_new _ _ _) (by omega) (by simp; omega) ?_; intro v' w1 hown1 hb1))
        go_roundw
        case rel => exact ⟨k + 1, o ++ [s[k]], by omega, by go_num, by simp; omega, hown1, (hbel.alloc hz _).trans hb1, HN⟩
        case measure => simp [intOf]; omega
    · have HL : Hid (∀ r, s.data.toList = E r → r = o) := HS.last (by simp; omega)
      have hcv := own_text hown
      clear HS
      go_wp2
      go_ret2
      exact ⟨_, _, rfl, ⟨by rw [mk_size]; omega, fun r hr => ⟨by rw [HL.out r hr], rfl⟩⟩, hbel⟩
end Go.Proofs.YtmkgbdgafjeeiamDoor
