/- The contracts of TextNum, given and landed. -/
import Derived.Test.YtmkgbdgafjeeiamDoorNumText
namespace Go.Proofs.YtmkgbdgafjeeiamDoor
open Go.ChangeShapes Go.WideShapes Go.ChangeAt Go.RowKit

theorem toList_eq (s : ByteArray) : s.toList = s.data.toList := ByteArray.toList_eq s
/-- What TextNum answers. -/
def tnV (s : ByteArray) : Int := (textNum s.data.toList).getD 0
def tnB (s : ByteArray) : Bool := (textNum s.data.toList).isSome
theorem tn_none {s : ByteArray} (h : textNum s.data.toList = .none) : tnV s = 0 ∧ tnB s = false := by simp [tnV, tnB, h]
theorem tn_some {s : ByteArray} {v : Int} (h : textNum s.data.toList = some v) : tnV s = v ∧ tnB s = true := by simp [tnV, tnB, h]
theorem ret_tn {a b : Int} {c d : Bool} (h : a = b) (k : c = d) : Ending.returned (.tuple #[.int .i64 a, .bool c]) = .returned (.tuple #[.int .i64 b, .bool d]) := by rw [h, k]

set_option maxRecDepth 100000 in
set_option maxHeartbeats 400000 in
/-- impl.TextNum -/
theorem textNum_impl (s : ByteArray) (hs : s.size ≤ 1048576) (w : World) (hT : Tab w) (hE : Errs w) :
    Calls Tryd.prog 52 #[.string s] w fun e w' => e = .returned (.tuple #[.int .i64 (tnV s), .bool (tnB s)]) ∧ Below w.heap.size w w' := by
  have HT : Hid (Tab w) := hT
  have HE : Hid (Errs w) := hE
  clear hT hE
  by_cases hok : ∃ v, Lib.atoiAll s.data.toList = .ok v
  · obtain ⟨v, hv⟩ := hok
    have HV : Hid (_ = _) := hv
    by_cases hn : numText v = s.data.toList
    · have hne : s.data.toList ≠ [] := fun e => by rw [e] at hv; cases hv
      have HA := tn_some (s := s) (textNum_text v _ hne hn)
      have HN : Hid (numText v = s.data.toList) := hn
      have HA' : Hid (tnV s = v ∧ tnB s = true) := HA
      clear hn HA hv
      go_enter Tryd.func52, Tryd.ntmps52
      go_wp2_with fail
      refine (atoi_ok s hs v HV.out _).mono ?_
      rintro e w1 ⟨rfl, hb1⟩
      go_wp2_with fail
      refine (numText_impl v _ (HT.out.on hb1)).mono ?_
      rw [HN.out]
      rintro e w2 ⟨rfl, hb2⟩
      go_wp2
      go_ret2
      exact ⟨ret_tn HA'.out.1.symm HA'.out.2.symm, hb1.trans (hb2.mono hb1.size)⟩
    · have HA' : Hid (tnV s = 0 ∧ tnB s = false) := tn_none (tn_atoi _ v hv hn)
      have HI : Hid (∀ w : World, Tab w → Calls Tryd.prog 56 #[.int .i64 v] w fun e w' => e = .returned (str (numText v)) ∧ Below w.heap.size w w') := fun w h => numText_impl v w h
      generalize numText v = L at HI hn
      have hq : (L == s.toList) = false := by rw [toList_eq]; simpa using hn
      clear hv hn
      go_enter Tryd.func52, Tryd.ntmps52
      go_wp2_with fail
      refine (atoi_ok s hs v HV.out _).mono ?_
      rintro e w1 ⟨rfl, hb1⟩
      go_wp2_with fail
      refine (HI.out _ (HT.out.on hb1)).mono ?_
      rintro e w2 ⟨rfl, hb2⟩
      go_wp2
      go_ret2
      exact ⟨ret_tn HA'.out.1.symm HA'.out.2.symm, hb1.trans (hb2.mono hb1.size)⟩
  · have HA' : Hid (tnV s = 0 ∧ tnB s = false) := tn_none (tn_err _ (fun v hv => hok ⟨v, hv⟩))
    have HO : Hid (∀ v, Lib.atoiAll s.data.toList ≠ .ok v) := fun v hv => hok ⟨v, hv⟩
    clear hok
    go_enter Tryd.func52, Tryd.ntmps52
    go_wp2_with fail
    refine (atoi_err s hs HO.out _ HE.out).mono ?_
    rintro e w1 ⟨v, a, rfl, hb1⟩
    go_wp2
    go_ret2
    exact ⟨ret_tn HA'.out.1.symm HA'.out.2.symm, hb1⟩

theorem head_at (s : ByteArray) (h : 0 < s.size) : s.data.toList.head? = some s[0] := by
  rw [List.head?_eq_getElem?, List.getElem?_eq_getElem (by simpa using h)]; rfl
theorem at_eq (s : ByteArray) (k : Nat) (h : k < s.size) : s.data.toList[k]'(by simpa using h) = s[k] := rfl
theorem size_len (s : ByteArray) : s.data.toList.length = s.size := by simp

/-- What the loop knows at a place. -/
def Dg (s : ByteArray) (k : Nat) (a : Int) : Prop := a = (val 0 (digs s.data.toList k) : Int) ∧ ∀ c ∈ digs s.data.toList k, 48 ≤ c.toNat ∧ c.toNat ≤ 57
theorem Dg.bound {s : ByteArray} {k : Nat} {a : Int} (h : Dg s k a) (hk : k ≤ 14) : 0 ≤ a ∧ a < 100000000000000 := by
  obtain ⟨rfl, hd⟩ := h
  have := val_bound _ hd (Nat.le_trans (digs_len _ k) hk)
  omega
theorem Dg.zero (s : ByteArray) : Dg s 0 0 := by
  refine ⟨?_, ?_⟩
  · rw [digs_zero, val_nil]; rfl
  · rw [digs_zero]; intro c hc; cases hc
theorem Dg.sign {s : ByteArray} {a : Int} (h : Dg s 0 a) (h0 : 0 < s.size) (hs : (s[0].toNat : Int) = 45) : Dg s 1 a := by
  have hh : s.data.toList.head? = some 45 := by
    rw [head_at s h0]
    congr 1
    apply UInt8.toNat_inj.1
    have e : (45 : UInt8).toNat = 45 := rfl
    omega
  unfold Dg
  rw [digs_sign _ hh]
  exact h
theorem Dg.succ {s : ByteArray} {k : Nat} {a : Int} (h : Dg s k a) (hk : k < s.size) (hs : ¬ (k = 0 ∧ s.data.toList.head? = some 45)) (h1 : 48 ≤ (s[k].toNat : Int)) (h2 : (s[k].toNat : Int) ≤ 57) :
    Dg s (k + 1) (a * 10 + ((s[k].toNat : Int) - 48)) := by
  obtain ⟨rfl, hd⟩ := h
  obtain ⟨e, _⟩ := digs_succ s.data.toList k (by simpa using hk) hs
  rw [at_eq s k hk] at e
  unfold Dg
  rw [e, val_snoc]
  refine ⟨by omega, ?_⟩
  intro c hc
  rw [List.mem_append, List.mem_singleton] at hc
  rcases hc with hc | rfl
  · exact hd c hc
  · omega
theorem Dg.bad {s : ByteArray} {k : Nat} (hk : k < s.size) (hs : ¬ (k = 0 ∧ s.data.toList.head? = some 45)) (h1 : (s[k].toNat : Int) < 48 ∨ 57 < (s[k].toNat : Int)) : tnV s = 0 ∧ tnB s = false := by
  obtain ⟨_, e⟩ := digs_succ s.data.toList k (by simpa using hk) hs
  rw [at_eq s k hk] at e
  exact tn_none (tn_bad _ _ e (by omega))
theorem Dg.last {s : ByteArray} {k : Nat} {a : Int} (h : Dg s k a) (hk : k = s.size) (h0 : 0 < s.size) : sgnd s.data.toList = if (s[0].toNat : Int) = 45 then -a else a := by
  subst hk
  obtain ⟨rfl, _⟩ := h
  unfold sgnd
  rw [← size_len, digs_end, head_at s h0]
  by_cases hh : (s[0].toNat : Int) = 45
  · rw [if_pos hh, if_pos]
    congr 1
    apply UInt8.toNat_inj.1
    have e : (45 : UInt8).toNat = 45 := rfl
    omega
  · rw [if_neg hh, if_neg]
    intro e
    rw [Option.some.injEq] at e
    rw [e] at hh
    exact hh rfl
theorem head_iff (s : ByteArray) (h0 : 0 < s.size) : s.data.toList.head? = some 45 ↔ (s[0].toNat : Int) = 45 := by
  rw [head_at s h0, Option.some.injEq]
  constructor
  · intro e; rw [e]; rfl
  · intro e
    apply UInt8.toNat_inj.1
    have e' : (45 : UInt8).toNat = 45 := rfl
    omega

set_option maxRecDepth 100000 in
set_option maxHeartbeats 1000000 in
/-- spec.TextNum -/
theorem textNum_spec (s : ByteArray) (hs : s.size ≤ 1048576) (w : World) :
    Calls Tryd.prog 29 #[.string s] w fun e w' => e = .returned (.tuple #[.int .i64 (tnV s), .bool (tnB s)]) ∧ Below w.heap.size w w' := by
  by_cases h1 : (s.size : Int) < 1
  · have HA' : Hid (tnV s = 0 ∧ tnB s = false) := tn_none (tn_len _ (by rw [size_len]; omega))
    go_enter Tryd.func29, Tryd.ntmps29
    go_wp2
    go_ret2
    exact ⟨ret_tn HA'.out.1.symm HA'.out.2.symm, Below.refl _ _⟩
  by_cases h14 : (14 : Int) < s.size
  · have HA' : Hid (tnV s = 0 ∧ tnB s = false) := tn_none (tn_len _ (by rw [size_len]; omega))
    go_enter Tryd.func29, Tryd.ntmps29
    go_wp2
    go_ret2
    exact ⟨ret_tn HA'.out.1.symm HA'.out.2.symm, Below.refl _ _⟩
  have e1 : decide ((s.size : Int) < 1) = false := by simp; omega
  have e14 : decide ((14 : Int) < s.size) = false := by simp; omega
  have h0 : 0 < s.size := by omega
  have h0i : (0 : Int) < s.size := by omega
  go_enter Tryd.func29, Tryd.ntmps29
  go_wp2
  go_loop [4, 5] (fun n i => ∃ (k : Nat) (a : Int), k ≤ s.size ∧ i = .int .i64 k ∧ n = .int .i64 a ∧ Dg s k a) (fun _ i => s.size - (intOf i).toNat)
  case atStart => exact ⟨0, 0, Nat.zero_le _, rfl, rfl, Dg.zero s⟩
  case round =>
    obtain ⟨k, a, hk, rfl, rfl, HD⟩ := hrel
    obtain ⟨ha0, ha1⟩ := HD.bound (by omega)
    by_cases hlt : k < s.size
    · by_cases hsg : k = 0 ∧ (s[0].toNat : Int) = 45
      · obtain ⟨rfl, hm⟩ := hsg
        have hmb : ((s[0].toNat : Int) == 45) = true := by simp [hm]
        have HN : Dg s 1 a := HD.sign hlt hm
        clear hm
        go_wp2
        go_round
        case rel => exact ⟨1, a, by omega, rfl, rfl, HN⟩
        case measure => simp [intOf]; omega
      · have hns : ¬ (k = 0 ∧ s.data.toList.head? = some 45) := by rw [head_iff s h0]; exact hsg
        by_cases hlo : (s[k].toNat : Int) < 48
        · have HA' : Hid (tnV s = 0 ∧ tnB s = false) := Dg.bad hlt hns (Or.inl hlo)
          clear hns
          by_cases hk0 : k = 0
          · subst hk0
            have hmb : ((s[0].toNat : Int) == 45) = false := by simpa using hsg
            clear hsg
            go_wp2
            go_ret2
            exact ⟨ret_tn HA'.out.1.symm HA'.out.2.symm, Below.refl _ _⟩
          · clear hsg
            go_wp2
            go_ret2
            exact ⟨ret_tn HA'.out.1.symm HA'.out.2.symm, Below.refl _ _⟩
        by_cases hhi : (57 : Int) < s[k].toNat
        · have HA' : Hid (tnV s = 0 ∧ tnB s = false) := Dg.bad hlt hns (Or.inr hhi)
          clear hns
          by_cases hk0 : k = 0
          · subst hk0
            have hmb : ((s[0].toNat : Int) == 45) = false := by simpa using hsg
            clear hsg
            go_wp2
            go_ret2
            exact ⟨ret_tn HA'.out.1.symm HA'.out.2.symm, Below.refl _ _⟩
          · clear hsg
            go_wp2
            go_ret2
            exact ⟨ret_tn HA'.out.1.symm HA'.out.2.symm, Below.refl _ _⟩
        have HN := HD.succ hlt hns (by omega) (by omega)
        clear hns
        by_cases hk0 : k = 0
        · subst hk0
          have hmb : ((s[0].toNat : Int) == 45) = false := by simpa using hsg
          clear hsg
          go_wp2
          go_round
          case rel => exact ⟨1, _, by omega, rfl, rfl, HN⟩
          case measure => simp [intOf]; omega
        · clear hsg
          go_wp2
          go_round
          case rel => exact ⟨k + 1, _, by omega, by go_num, rfl, HN⟩
          case measure => simp [intOf]; omega
    · have HL := HD.last (by omega) h0
      have hne : s.data.toList ≠ [] := by intro e; have := size_len s; rw [e] at this; simp at this; omega
      by_cases hm : (s[0].toNat : Int) = 45
      · have hmb : ((s[0].toNat : Int) == 45) = true := by simp [hm]
        rw [if_pos hm] at HL
        clear hm
        have HS : Hid (∀ w : World, Calls Tryd.prog 40 #[.int .i64 (-a)] w fun e w' => e = .returned (str (numText (-a))) ∧ Below w.heap.size w w') := fun w => numText_spec _ w
        by_cases hq : numText (-a) = s.data.toList
        · have HA' : Hid (tnV s = -a ∧ tnB s = true) := by
            have := tn_some (s := s) (tn_yes _ hne (by rw [HL]; exact hq)); rw [HL] at this; exact this
          rw [hq] at HS
          clear HL hq hne HD
          go_wp2_with fail
          refine (HS.out _).mono ?_
          rintro e w1 ⟨rfl, hb1⟩
          go_wp2
          go_ret2
          exact ⟨ret_tn HA'.out.1.symm HA'.out.2.symm, hb1⟩
        · have HA' : Hid (tnV s = 0 ∧ tnB s = false) := tn_none (tn_no _ (by rw [HL]; exact hq))
          generalize numText (-a) = L at HS hq
          have hqb : (L == s.toList) = false := by rw [toList_eq]; simpa using hq
          clear HL hq hne HD
          go_wp2_with fail
          refine (HS.out _).mono ?_
          rintro e w1 ⟨rfl, hb1⟩
          go_wp2
          go_ret2
          exact ⟨ret_tn HA'.out.1.symm HA'.out.2.symm, hb1⟩
      · have hmb : ((s[0].toNat : Int) == 45) = false := by simpa using hm
        rw [if_neg hm] at HL
        clear hm
        have HS : Hid (∀ w : World, Calls Tryd.prog 40 #[.int .i64 a] w fun e w' => e = .returned (str (numText a)) ∧ Below w.heap.size w w') := fun w => numText_spec _ w
        by_cases hq : numText a = s.data.toList
        · have HA' : Hid (tnV s = a ∧ tnB s = true) := by
            have := tn_some (s := s) (tn_yes _ hne (by rw [HL]; exact hq)); rw [HL] at this; exact this
          rw [hq] at HS
          clear HL hq hne HD
          go_wp2_with fail
          refine (HS.out _).mono ?_
          rintro e w1 ⟨rfl, hb1⟩
          go_wp2
          go_ret2
          exact ⟨ret_tn HA'.out.1.symm HA'.out.2.symm, hb1⟩
        · have HA' : Hid (tnV s = 0 ∧ tnB s = false) := tn_none (tn_no _ (by rw [HL]; exact hq))
          generalize numText a = L at HS hq
          have hqb : (L == s.toList) = false := by rw [toList_eq]; simpa using hq
          clear HL hq hne HD
          go_wp2_with fail
          refine (HS.out _).mono ?_
          rintro e w1 ⟨rfl, hb1⟩
          go_wp2
          go_ret2
          exact ⟨ret_tn HA'.out.1.symm HA'.out.2.symm, hb1⟩
end Go.Proofs.YtmkgbdgafjeeiamDoor
