/- The contracts of TextNum, given and landed. -/
import Derived.Test.YtihilcffmdjhhafDoorNumText
namespace Go.Proofs.YtihilcffmdjhhafDoor
open Go.ChangeShapes Go.WideShapes Go.ChangeAt Go.RowKit

theorem toList_eq (s : ByteArray) : s.toList = s.data.toList := ByteArray.toList_eq s
/-- What TextNum answers. -/
def tnV (s : ByteArray) : Int := (textNum s.data.toList).getD 0
def tnB (s : ByteArray) : Bool := (textNum s.data.toList).isSome
theorem tn_none {s : ByteArray} (h : textNum s.data.toList = .none) : tnV s = 0 ∧ tnB s = false := by simp [tnV, tnB, h]
theorem tn_some {s : ByteArray} {v : Int} (h : textNum s.data.toList = some v) : tnV s = v ∧ tnB s = true := by simp [tnV, tnB, h]
theorem ret_tn {a b : Int} {c d : Bool} (h : a = b) (k : c = d) : Ending.returned (.tuple #[.int .i64 a, .bool c]) = .returned (.tuple #[.int .i64 b, .bool d]) := by rw [h, k]

set_option maxRecDepth 100000 in
set_option maxHeartbeats 400000 in
/-- impl.TextNum -/
theorem textNum_impl (s : ByteArray) (hs : s.size ≤ 1048576) (w : World) (hT : Tab w) (hE : Errs w) :
    Calls Tryd.prog 9 #[.string s] w fun e w' => e = .returned (.tuple #[.int .i64 (tnV s), .bool (tnB s)]) ∧ Below w.heap.size w w' := by
  have HT : Hid (Tab w) := hT
  have HE : Hid (Errs w) := hE
  clear hT hE
  by_cases hok : ∃ v, Lib.atoiAll s.data.toList = .ok v
  · obtain ⟨v, hv⟩ := hok
    have HV : Hid (_ = _) := hv
    by_cases hn : numText v = s.data.toList
    · have hne : s.data.toList ≠ [] := fun e => by rw [e] at hv; cases hv
      have HA := tn_some (s := s) (textNum_text v _ hne hn)
      have HN : Hid (numText v = s.data.toList) := hn
      have HA' : Hid (tnV s = v ∧ tnB s = true) := HA
      clear hn HA hv
      go_enter Tryd.func9, Tryd.ntmps9
      go_wp2_with fail
      refine (atoi_ok s hs v HV.out _).mono ?_
      rintro e w1 ⟨rfl, hb1⟩
      go_wp2_with fail
      refine (numText_impl v _ (HT.out.on hb1)).mono ?_
      rw [HN.out]
      rintro e w2 ⟨rfl, hb2⟩
      go_wp2
      go_ret2
      exact ⟨ret_tn HA'.out.1.symm HA'.out.2.symm, hb1.trans (hb2.mono hb1.size)⟩
    · have HA' : Hid (tnV s = 0 ∧ tnB s = false) := tn_none (tn_atoi _ v hv hn)
      have HI : Hid (∀ w : World, Tab w → Calls Tryd.prog 8 #[.int .i64 v] w fun e w' => e = .returned (str (numText v)) ∧ Below w.heap.size w w') := fun w h => numText_impl v w h
      generalize numText v = L at HI hn
      have hq : (L == s.toList) = false := by rw [toList_eq]; simpa using hn
      clear hv hn
      go_enter Tryd.func9, Tryd.ntmps9
      go_wp2_with fail
      refine (atoi_ok s hs v HV.out _).mono ?_
      rintro e w1 ⟨rfl, hb1⟩
      go_wp2_with fail
      refine (HI.out _ (HT.out.on hb1)).mono ?_
      rintro e w2 ⟨rfl, hb2⟩
      go_wp2
      go_ret2
      exact ⟨ret_tn HA'.out.1.symm HA'.out.2.symm, hb1.trans (hb2.mono hb1.size)⟩
  · have HA' : Hid (tnV s = 0 ∧ tnB s = false) := tn_none (tn_err _ (fun v hv => hok ⟨v, hv⟩))
    have HO : Hid (∀ v, Lib.atoiAll s.data.toList ≠ .ok v) := fun v hv => hok ⟨v, hv⟩
    clear hok
    go_enter Tryd.func9, Tryd.ntmps9
    go_wp2_with fail
    refine (atoi_err s hs HO.out _ HE.out).mono ?_
    rintro e w1 ⟨v, a, rfl, hb1⟩
    go_wp2
    go_ret2
    exact ⟨ret_tn HA'.out.1.symm HA'.out.2.symm, hb1⟩

theorem head_at (s : ByteArray) (h : 0 < s.size) : s.data.toList.head? = some s[0] := by
  rw [List.head?_eq_getElem?, List.getElem?_eq_getElem (by simpa using h)]; rfl
theorem at_eq (s : ByteArray) (k : Nat) (h : k < s.size) : s.data.toList[k]'(by simpa using h) = s[k] := rfl
theorem size_len (s : ByteArray) : s.data.toList.length = s.size := by simp

/-- What the loop knows at a place. -/
def Dg (s : ByteArray) (k : Nat) (a : Int) : Prop := a = (val 0 (digs s.data.toList k) : Int) ∧ ∀ c ∈ digs s.data.toList k, 48 ≤ c.toNat ∧ c.toNat ≤ 57
theorem Dg.bound {s : ByteArray} {k : Nat} {a : Int} (h : Dg s k a) (hk : k ≤ 14) : 0 ≤ a ∧ a < 100000000000000 := by
  obtain ⟨rfl, hd⟩ := h
  have := val_bound _ hd (Nat.le_trans (digs_len _ k) hk)
  omega
theorem Dg.zero (s : ByteArray) : Dg s 0 0 := by
  refine ⟨?_, ?_⟩
  · rw [digs_zero, val_nil]; rfl
  · rw [digs_zero]; intro c hc; cases hc
theorem Dg.sign {s : ByteArray} {a : Int} (h : Dg s 0 a) (h0 : 0 < s.size) (hs : (s[0].toNat : Int) = 45) : Dg s 1 a := by
  have hh : s.data.toList.head? = some 45 := by
    rw [head_at s h0]
    congr 1
    apply UInt8.toNat_inj.1
    have e : (45 : UInt8).toNat = 45 := rfl
    omega
  unfold Dg
  rw [digs_sign _ hh]
  exact h
theorem Dg.succ {s : ByteArray} {k : Nat} {a : Int} (h : Dg s k a) (hk : k < s.size) (hs : ¬ (k = 0 ∧ s.data.toList.head? = some 45)) (h1 : 48 ≤ (s[k].toNat : Int)) (h2 : (s[k].toNat : Int) ≤ 57) :
    Dg s (k + 1) (a * 10 + ((s[k].toNat : Int) - 48)) := by
  obtain ⟨rfl, hd⟩ := h
  obtain ⟨e, _⟩ := digs_succ s.data.toList k (by simpa using hk) hs
  rw [at_eq s k hk] at e
  unfold Dg
  rw [e, val_snoc]
  refine ⟨by omega, ?_⟩
  intro c hc
  rw [List.mem_append, List.mem_singleton] at hc
  rcases hc with hc | rfl
  · exact hd c hc
  · omega
theorem Dg.bad {s : ByteArray} {k : Nat} (hk : k < s.size) (hs : ¬ (k = 0 ∧ s.data.toList.head? = some 45)) (h1 : (s[k].toNat : Int) < 48 ∨ 57 < (s[k].toNat : Int)) : tnV s = 0 ∧ tnB s = false := by
  obtain ⟨_, e⟩ := digs_succ s.data.toList k (by simpa using hk) hs
  rw [at_eq s k hk] at e
  exact tn_none (tn_bad _ _ e (by omega))
theorem Dg.last {s : ByteArray} {k : Nat} {a : Int} (h : Dg s k a) (hk : k = s.size) (h0 : 0 < s.size) : sgnd s.data.toList = if (s[0].toNat : Int) = 45 then -a else a := by
  subst hk
  obtain ⟨rfl, _⟩ := h
  unfold sgnd
  rw [← size_len, digs_end, head_at s h0]
  by_cases hh : (s[0].toNat : Int) = 45
  · rw [if_pos hh, if_pos]
    congr 1
    apply UInt8.toNat_inj.1
    have e : (45 : UInt8).toNat = 45 := rfl
    omega
  · rw [if_neg hh, if_neg]
    intro e
    rw [Option.some.injEq] at e
    rw [e] at hh
    exact hh rfl
theorem head_iff (s : ByteArray) (h0 : 0 < s.size) : s.data.toList.head? = some 45 ↔ (s[0].toNat : Int) = 45 := by
  rw [head_at s h0, Option.some.injEq]
  constructor
  · intro e; rw [e]; rfl
  · intro e
    apply UInt8.toNat_inj.1
    have e' : (45 : UInt8).toNat = 45 := rfl
    omega

end Go.Proofs.YtihilcffmdjhhafDoor
