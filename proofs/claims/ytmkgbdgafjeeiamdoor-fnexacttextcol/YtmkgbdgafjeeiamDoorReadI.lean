/- The landed reading of a value: its contract. -/
import Derived.Test.YtmkgbdgafjeeiamDoorValPlain
import Derived.Lib.Strings
namespace Go.Proofs.YtmkgbdgafjeeiamDoor
open Go.ChangeShapes Go.WideShapes Go.ChangeAt Go.RowKit

abbrev tQ : ByteArray := ⟨#[39]⟩
theorem prefix_lib (s : ByteArray) (w : World) : Calls Tryd.prog 49 #[.string s, .string tQ] w fun e w' => e = .returned (.bool (Lib.hasPrefix s.data.toList [39])) ∧ w' = w :=
  Any.strings_HasPrefix Tryd.lays99 s tQ w
theorem suffix_lib (s : ByteArray) (hs : s.size ≤ 1048576) (w : World) : Calls Tryd.prog 51 #[.string s, .string tQ] w fun e w' => e = .returned (.string ⟨(Lib.trimSuffix s.data.toList [39]).toArray⟩) ∧ w' = w :=
  Any.strings_TrimSuffix Tryd.lays102 s tQ w (by omega)
theorem prefix_iff (l : List UInt8) : Lib.hasPrefix l [39] = true ↔ l.head? = some 39 := by
  unfold Lib.hasPrefix
  cases l with
  | nil => simp
  | cons c r =>
    simp only [List.isPrefixOf, Bool.and_true, beq_iff_eq, List.head?_cons, Option.some.injEq]
    exact eq_comm
theorem trim_E (l : List UInt8) : Lib.trimSuffix (l ++ [39]) [39] = l := by
  unfold Lib.trimSuffix
  have h : Lib.hasSuffix (l ++ [39]) [39] = true := by
    unfold Lib.hasSuffix
    rw [List.isSuffixOf_iff_suffix]
    exact List.suffix_append _ _
  rw [if_pos h]
  simp
theorem trim_len (l : List UInt8) : (Lib.trimSuffix l [39]).length ≤ l.length := by
  unfold Lib.trimSuffix
  split
  · exact List.length_take_le' _ _
  · exact Nat.le_refl _

/-- An inner value and the fields of the value that it is. -/
def Inn (x : Value) (ty n : Int) (r : ByteArray) : Prop :=
  (x = iNull ∧ ty = 0 ∧ n = 0 ∧ r = noS) ∨ (∃ b, x = iBool b ∧ ty = 1 ∧ n = bN b ∧ r = noS) ∨ (x = iInt n ∧ ty = 2 ∧ r = noS) ∨ (x = iText r ∧ ty = 3 ∧ n = 0)
theorem Inn.null : Inn iNull 0 0 noS := Or.inl ⟨rfl, rfl, rfl, rfl⟩
theorem Inn.bool (b : Bool) : Inn (iBool b) 1 (bN b) noS := Or.inr (Or.inl ⟨b, rfl, rfl, rfl, rfl⟩)
theorem Inn.int (n : Int) : Inn (iInt n) 2 n noS := Or.inr (Or.inr (Or.inl ⟨rfl, rfl, rfl⟩))
theorem Inn.text (s : ByteArray) : Inn (iText s) 3 0 s := Or.inr (Or.inr (Or.inr ⟨rfl, rfl, rfl⟩))
/-- What readValue gives: the value wherever there is one. -/
def Rv (s : ByteArray) (ty n : Int) (r : ByteArray) (b : Bool) : Prop := (b = true → s.data.toList ≠ []) ∧ ∀ ty' n' r', Tv s ty' n' r' → b = true ∧ ty' = ty ∧ n' = n ∧ r' = r

theorem beqL (s : ByteArray) (l : List UInt8) : (s.toList == l) = true ↔ s = ⟨l.toArray⟩ := by
  rw [ByteArray.toList_eq, beq_iff_eq]
  constructor
  · intro h; exact ba_of s l h
  · intro h; rw [h]

set_option maxRecDepth 100000 in
set_option maxHeartbeats 1000000 in
/-- impl.readValue -/
theorem readValue_impl (s : ByteArray) (hs : s.size ≤ 1048576) (w : World) (hT : Tab w) (hE : Errs w) :
    Calls Tryd.prog 46 #[.string s] w fun e w' => ∃ x ty n r b, e = .returned (pr x b) ∧ Inn x ty n r ∧ Rv s ty n r b ∧ Below w.heap.size w w' := by
  have HT : Hid (Tab w) := hT
  have HE : Hid (Errs w) := hE
  clear hT hE
  cases d0 : s.toList == [110, 117, 108, 108]
  · cases d1 : s.toList == [116, 114, 117, 101]
    · cases d2 : s.toList == [102, 97, 108, 115, 101]
      · have n0 : s ≠ tNull := fun e => by have := (beqL s [110, 117, 108, 108]).2 e; rw [d0] at this; cases this
        have n1 : s ≠ tTrue := fun e => by have := (beqL s [116, 114, 117, 101]).2 e; rw [d1] at this; cases this
        have n2 : s ≠ tFalse := fun e => by have := (beqL s [102, 97, 108, 115, 101]).2 e; rw [d2] at this; cases this
        have HP : Hid (∀ w : World, Calls Tryd.prog 49 #[.string s, .string tQ] w fun e w' => e = .returned (.bool (Lib.hasPrefix s.data.toList [39])) ∧ w' = w) := fun w => prefix_lib s w
        cases hp : Lib.hasPrefix s.data.toList [39]
        · rw [hp] at HP
          have hq : s.data.toList.head? ≠ some 39 := fun e => by have := (prefix_iff _).2 e; rw [hp] at this; cases this
          have HR : Hid (Rv s 2 (tnV s) noS (tnB s)) := by
            refine ⟨fun hb e => ?_, fun ty' n' r' h => ?_⟩
            · have : textNum s.data.toList = .none := tn_len _ (by rw [e]; simp)
              rw [(tn_none this).2] at hb; cases hb
            · obtain ⟨rfl, rfl, ht⟩ := tv_num s hq n0 n1 n2 ty' n' r' h
              obtain ⟨e1, e2⟩ := tn_some ht
              exact ⟨e2, rfl, e1.symm, rfl⟩
          have HS : Hid (∀ w : World, Tab w → Errs w → Calls Tryd.prog 52 #[.string s] w fun e w' => e = .returned (.tuple #[.int .i64 (tnV s), .bool (tnB s)]) ∧ Below w.heap.size w w') := fun w h k => textNum_impl s hs w h k
          generalize tnV s = v at HS HR
          generalize tnB s = b at HS HR
          clear hp hq n0 n1 n2
          go_enter Tryd.func46, Tryd.ntmps46
          go_wp2_with (first | (go_at_call 49; refine (HP.out _).mono ?_; rintro e w' ⟨rfl, hw⟩; subst w') | (go_at_call 52; refine (HS.out _ HT.out HE.out).mono ?_; rintro e w1 ⟨rfl, hb1⟩))
          go_ret2
          exact ⟨_, _, _, _, _, rfl, Inn.int v, HR, hb1⟩
        · rw [hp] at HP
          have hq : s.data.toList.head? = some 39 := (prefix_iff _).1 hp
          have h1 : 1 ≤ s.size := by
            cases hl : s.data.toList with
            | nil => rw [hl] at hq; cases hq
            | cons c t => have := size_len s; rw [hl] at this; simp at this; omega
          have h1i : (1 : Int) ≤ s.size := by omega
          have hdl : (s.extract 1 s.size).data.toList = s.data.toList.drop 1 := by
            simp
            exact List.take_of_length_le (by simp)
          have hsz : (s.extract 1 s.size).size ≤ 1048576 := by simp; omega
          have HX : Hid (∀ w : World, Calls Tryd.prog 51 #[.string (s.extract 1 s.size), .string tQ] w fun e w' => e = .returned (.string ⟨(Lib.trimSuffix (s.data.toList.drop 1) [39]).toArray⟩) ∧ w' = w) := fun w => by rw [← hdl]; exact suffix_lib _ hsz w
          have hul : (⟨(Lib.trimSuffix (s.data.toList.drop 1) [39]).toArray⟩ : ByteArray).size ≤ 1048576 := by
            rw [mk_size]
            have := trim_len (s.data.toList.drop 1)
            rw [List.length_drop, size_len] at this
            omega
          have HU : Hid (∀ w : World, Calls Tryd.prog 50 #[.string ⟨(Lib.trimSuffix (s.data.toList.drop 1) [39]).toArray⟩] w fun e w' => ∃ u b, e = .returned (.tuple #[.string u, .bool b]) ∧ UnRes ⟨(Lib.trimSuffix (s.data.toList.drop 1) [39]).toArray⟩ u b ∧ Below w.heap.size w w') := fun w => unescape_impl _ hul w
          have HR : Hid (∀ u b, UnRes ⟨(Lib.trimSuffix (s.data.toList.drop 1) [39]).toArray⟩ u b → Rv s 3 0 u b) := by
            intro u b hu
            refine ⟨fun _ e => (by rw [e] at hq; cases hq), fun ty' n' r' h => ?_⟩
            obtain ⟨rfl, rfl, _, he⟩ := tv_quote s hq ty' n' r' h
            have ht : Lib.trimSuffix (s.data.toList.drop 1) [39] = E r'.data.toList := by rw [he]; exact trim_E _
            obtain ⟨e1, e2⟩ := hu.2 r'.data.toList (by rw [ht])
            exact ⟨e2, rfl, rfl, by rw [e1, ba_eta]⟩
          generalize (⟨(Lib.trimSuffix (s.data.toList.drop 1) [39]).toArray⟩ : ByteArray) = T at HX HU HR
          clear hp hq n0 n1 n2 hdl hsz hul
          go_enter Tryd.func46, Tryd.ntmps46
          go_wp2_with (first | (go_at_call 49; refine (HP.out _).mono ?_; rintro e w' ⟨rfl, hw⟩; subst w') | (go_at_call 51; refine (HX.out _).mono ?_; rintro e w' ⟨rfl, hw⟩; subst w') | (go_at_call 50; refine (HU.out _).mono ?_; rintro e w1 ⟨u, b, rfl, hu, hb1⟩))
          go_ret2
          exact ⟨_, _, _, _, _, rfl, Inn.text u, HR.out u b hu, hb1⟩
      · have e2 := (beqL s [102, 97, 108, 115, 101]).1 d2
        have HR : Hid (Rv s 1 0 noS true) := by
          refine ⟨fun _ => (by rw [e2]; simp), fun ty' n' r' h => ?_⟩
          rw [e2] at h
          obtain ⟨rfl, rfl, rfl⟩ := tv_false _ _ _ h
          exact ⟨rfl, rfl, rfl, rfl⟩
        clear e2
        go_enter Tryd.func46, Tryd.ntmps46
        go_wp2
        go_ret2
        exact ⟨_, _, _, _, _, rfl, Inn.bool false, HR, Below.refl _ _⟩
    · have e1 := (beqL s [116, 114, 117, 101]).1 d1
      have HR : Hid (Rv s 1 1 noS true) := by
        refine ⟨fun _ => (by rw [e1]; simp), fun ty' n' r' h => ?_⟩
        rw [e1] at h
        obtain ⟨rfl, rfl, rfl⟩ := tv_true _ _ _ h
        exact ⟨rfl, rfl, rfl, rfl⟩
      clear e1
      go_enter Tryd.func46, Tryd.ntmps46
      go_wp2
      go_ret2
      exact ⟨_, _, _, _, _, rfl, Inn.bool true, HR, Below.refl _ _⟩
  · have e0 := (beqL s [110, 117, 108, 108]).1 d0
    have HR : Hid (Rv s 0 0 noS true) := by
      refine ⟨fun _ => (by rw [e0]; simp), fun ty' n' r' h => ?_⟩
      rw [e0] at h
      obtain ⟨rfl, rfl, rfl⟩ := tv_null _ _ _ h
      exact ⟨rfl, rfl, rfl, rfl⟩
    clear e0
    go_enter Tryd.func46, Tryd.ntmps46
    go_wp2
    go_ret2
    exact ⟨_, _, _, _, _, rfl, Inn.null, HR, Below.refl _ _⟩
end Go.Proofs.YtmkgbdgafjeeiamDoor
