/- Texts within quotes, read again: plainly; and the digits' functions, landed and given. -/
import Derived.Test.YtmkgbdgafjeeiamDoorValTextI
import Derived.Lib.Bytealg
namespace Go.Proofs.YtmkgbdgafjeeiamDoor
open Go.ChangeShapes Go.WideShapes Go.ChangeAt Go.RowKit

/-- The place of a digit, -1 where it is none. -/
def hexv (c : UInt8) : Int := Lib.indexByte hexA.data.toList c
theorem all_u8 {P : UInt8 → Prop} (h : ∀ i : Fin 256, P (UInt8.ofNat i.val)) (c : UInt8) : P c := by
  have := h ⟨c.toNat, c.toNat_lt⟩
  rwa [UInt8.ofNat_toNat] at this
theorem hexv_all (c : UInt8) : -1 ≤ hexv c ∧ hexv c ≤ 15 := all_u8 (P := fun c => -1 ≤ hexv c ∧ hexv c ≤ 15) (by decide +kernel) c
theorem hexv_hexB : ∀ i : Fin 16, hexv (hexB i.val) = i.val := by decide +kernel
/-- The first digit that is this byte, 0 where there is none. -/
def halfF (c : UInt8) : Nat := ((List.range 16).find? (fun d => hexB d == c)).getD 0
theorem halfF_lt (c : UInt8) : halfF c < 16 := all_u8 (P := fun c => halfF c < 16) (by decide +kernel) c
theorem halfF_hexB : ∀ i : Fin 16, halfF (hexB i.val) = i.val := by decide +kernel
theorem halfF_at : ∀ (c : UInt8) (d : Fin 16), hexB d.val = c → halfF c = d.val := by
  intro c d h; rw [← h]; exact halfF_hexB d
theorem halfF_none (c : UInt8) (h : ∀ d : Nat, d < 16 → hexB d ≠ c) : halfF c = 0 := by
  unfold halfF
  have : (List.range 16).find? (fun d => hexB d == c) = .none := by
    rw [List.find?_eq_none]
    intro d hd
    simp only [List.mem_range] at hd
    simpa using h d hd
  rw [this]; rfl
/-- The byte that two digits are, if they are. -/
def hexByteF (a b : UInt8) : Option UInt8 := if hexv a < 0 ∨ hexv b < 0 then .none else some (UInt8.ofNat (hexv a * 16 + hexv b).toNat)
theorem hexByteF_of (c : UInt8) : hexByteF (hexB (c.toNat / 16)) (hexB (c.toNat % 16)) = some c := by
  have hc := c.toNat_lt
  have h1 := hexv_hexB ⟨c.toNat / 16, by omega⟩
  have h2 := hexv_hexB ⟨c.toNat % 16, by omega⟩
  simp only at h1 h2
  rw [hexByteF, h1, h2, if_neg (by omega)]
  congr 1
  have e : ((c.toNat / 16 : Nat) * 16 + (c.toNat % 16 : Nat) : Int).toNat = c.toNat := by omega
  rw [e]
  exact UInt8.ofNat_toNat
theorem half_of (c : UInt8) : 16 * halfF (hexB (c.toNat / 16)) + halfF (hexB (c.toNat % 16)) = c.toNat := by
  have hc := c.toNat_lt
  have h1 := halfF_hexB ⟨c.toNat / 16, by omega⟩
  have h2 := halfF_hexB ⟨c.toNat % 16, by omega⟩
  simp only at h1 h2
  rw [h1, h2]
  omega
theorem plain_not37 (c : UInt8) (h : plainB c = true) : (c.toNat : Int) ≠ 37 := by
  unfold plainB at h
  simp only [Bool.and_eq_true, bne_iff_ne] at h
  exact h.2

theorem ret_int {k : IntKind} {a b : Int} (h : a = b) : Ending.returned (.int k a) = .returned (.int k b) := by rw [h]
theorem ret_ub {a b : Int} {c : Bool} (h : a = b) : Ending.returned (.tuple #[.int .u8 a, .bool c]) = .returned (.tuple #[.int .u8 b, .bool c]) := by rw [h]

theorem index_lib (c : UInt8) (w : World) : Calls Tryd.prog 57 #[.string hexA, .int .u8 c.toNat] w fun e w' => e = .returned (.int .i64 (hexv c)) ∧ w' = w := by
  have h := Any.strings_IndexByte Tryd.lays137 hexA (c.toNat : Int) w
  have e : ((c.toNat : Int)).toNat.toUInt8 = c := by
    rw [Int.toNat_natCast]
    exact UInt8.ofNat_toNat
  rw [e] at h
  exact h
/-- What hexByte answers. -/
def hbV (s : ByteArray) : Option UInt8 := if h : 1 < s.size then hexByteF (s[0]'(by omega)) (s[1]'h) else .none

set_option maxRecDepth 100000 in
set_option maxHeartbeats 400000 in
/-- impl.hexByte -/
theorem hexByte_impl (s : ByteArray) (hs : s.size ≤ 1048576) (w : World) : Calls Tryd.prog 53 #[.string s] w fun e w' => e = .returned (.tuple #[.int .u8 ((hbV s).getD 0).toNat, .bool (hbV s).isSome]) ∧ w' = w := by
  by_cases h : (s.size : Int) < 2
  · have HV : Hid (hbV s = .none) := by show _ = _; rw [hbV, dif_neg (by omega)]
    go_enter Tryd.func53, Tryd.ntmps53
    go_wp2
    go_ret2
    exact ⟨by rw [HV.out]; rfl, rfl⟩
  have h1 : 1 < s.size := by omega
  have h0 : 0 < s.size := by omega
  have HV : Hid (hbV s = hexByteF s[0] s[1]) := by show _ = _; rw [hbV, dif_pos h1]
  have b0 := hexv_all s[0]
  have b1 := hexv_all s[1]
  have i0 := fun w => index_lib s[0] w
  have i1 := fun w => index_lib s[1] w
  have I0 : Hid (∀ w : World, _) := i0
  have I1 : Hid (∀ w : World, _) := i1
  clear i0 i1
  by_cases c0 : hexv s[0] < 0
  · have HF : Hid (hexByteF s[0] s[1] = .none) := by show _ = _; rw [hexByteF, if_pos (Or.inl c0)]
    generalize hexv s[0] = x at I0 c0 b0
    generalize hexv s[1] = y at I1 b1
    go_enter Tryd.func53, Tryd.ntmps53
    go_wp2_with fail
    refine (I0.out _).mono ?_
    rintro e w' ⟨rfl, hw⟩
    subst w'
    go_wp2_with fail
    refine (I1.out _).mono ?_
    rintro e w' ⟨rfl, hw⟩
    subst w'
    go_wp2
    go_ret2
    exact ⟨by rw [HV.out, HF.out]; rfl, rfl⟩
  by_cases c1 : hexv s[1] < 0
  · have HF : Hid (hexByteF s[0] s[1] = .none) := by show _ = _; rw [hexByteF, if_pos (Or.inr c1)]
    generalize hexv s[0] = x at I0 c0 b0
    generalize hexv s[1] = y at I1 c1 b1
    go_enter Tryd.func53, Tryd.ntmps53
    go_wp2_with fail
    refine (I0.out _).mono ?_
    rintro e w' ⟨rfl, hw⟩
    subst w'
    go_wp2_with fail
    refine (I1.out _).mono ?_
    rintro e w' ⟨rfl, hw⟩
    subst w'
    go_wp2
    go_ret2
    exact ⟨by rw [HV.out, HF.out]; rfl, rfl⟩
  have HF : Hid (hexByteF s[0] s[1] = some (UInt8.ofNat (hexv s[0] * (16 : Int) + hexv s[1]).toNat)) := by show _ = _; rw [hexByteF, if_neg (by omega)]
  generalize hexv s[0] = x at I0 c0 b0 HF
  generalize hexv s[1] = y at I1 c1 b1 HF
  go_enter Tryd.func53, Tryd.ntmps53
  go_wp2_with fail
  refine (I0.out _).mono ?_
  rintro e w' ⟨rfl, hw⟩
  subst w'
  go_wp2_with fail
  refine (I1.out _).mono ?_
  rintro e w' ⟨rfl, hw⟩
  subst w'
  go_wp2
  go_ret2
  exact ⟨by rw [HV.out, HF.out]; exact ret_ub (by simp; omega), rfl⟩
end Go.Proofs.YtmkgbdgafjeeiamDoor
