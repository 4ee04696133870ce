/- A reader over a text: the rune that comes. -/
import Derived.Test.YtmkgbdgafjeeiamDoorWd
import Derived.Test.YtmkgbdgafjeeiamDoorOrd
import Derived.Laws.RangeAny
namespace Go.Proofs.YtmkgbdgafjeeiamDoor
open Go.ChangeShapes Go.WideShapes Go.ChangeAt Go.RowKit

/-- A reader at a place of a text. -/
def Rd (w : World) (R : Nat) (s : ByteArray) (k : Nat) : Prop := Own w R 47 #[.string s, .int .i64 k]
/-- What a reader gives up with. -/
abbrev gaveUp : Value := .iface 49 (.agg #[])
abbrev gone : Ending := .panicked [{ v := gaveUp, recovered := false }]
/-- The library's tables of runes. -/
abbrev Uni (w : World) : Prop := Lib.Utf8Tabs 0 1 w
theorem Uni.lt {w : World} (h : Uni w) : 0 < w.heap.size ∧ 1 < w.heap.size := ⟨cell_lt (h.1 0 (by omega)), cell_lt (h.2 0 (by omega)).1⟩
theorem Uni.on {w w' : World} {n : Nat} (h : Uni w) (b : Below n w w') (h1 : 0 < n) (h2 : 1 < n) : Uni w' :=
  ⟨fun c hc => (b.cell (p := ⟨_, c, none⟩) h1).trans (h.1 c hc), fun i hi => ⟨(b.cell (p := ⟨_, 2 * i, none⟩) h2).trans (h.2 i hi).1, (b.cell (p := ⟨_, 2 * i + 1, none⟩) h2).trans (h.2 i hi).2⟩⟩

set_option maxRecDepth 100000 in
set_option maxHeartbeats 1000000 in
theorem decode_low (s : ByteArray) (w : World) (h0 : 0 < s.size) (hlo : (s[0].toNat : Int) < 128) :
    Calls Tryd.prog 44 #[.string s] w fun e w' => e = .returned (.tuple #[.int .i32 s[0].toNat, .int .i64 1]) ∧ w' = w := by
  have hne : (s.toList == []) = false := by
    cases h : s.toList with
    | nil => simp [ByteArray.toList_eq] at h; simp [ByteArray.size, h] at h0
    | cons a l => rfl
  go_enter Tryd.func44, Tryd.ntmps44
  go_wp2
  exact bodyPost_ret (v := .tuple #[.int .i32 s[0].toNat, .int .i64 1]) (by simp [results, Tryd.results44, go_sem]) rfl ⟨rfl, rfl⟩
set_option maxRecDepth 100000 in
set_option maxHeartbeats 1000000 in
theorem decode_hi (s : ByteArray) (w : World) (h0 : 0 < s.size) (hhi : (128 : Int) ≤ s[0].toNat) (hU : Uni w) :
    Calls Tryd.prog 44 #[.string s] w fun e w' => e = .returned (.tuple #[.int .i32 (Lib.decodeGo s).1, .int .i64 (Lib.decodeGo s).2]) ∧ Below w.heap.size w w' := by
  have hne : (s.toList == []) = false := by
    cases h : s.toList with
    | nil => simp [ByteArray.toList_eq] at h; simp [ByteArray.size, h] at h0
    | cons a l => rfl
  have HU : Hid (Uni w) := hU
  have HD : Hid (∀ u : World, Uni u → Calls Tryd.prog 48 #[.string s] u fun e w' => e = .returned (.tuple #[.int .i32 (Lib.decodeGo s).1, .int .i64 (Lib.decodeGo s).2]) ∧ Below u.heap.size u w') := fun u hu => Any.utf8_decodeRuneInStringSlow Tryd.lays260 s u hu
  clear hU
  generalize (Lib.decodeGo s).1 = c at HD ⊢
  generalize (Lib.decodeGo s).2 = z at HD ⊢
  go_enter Tryd.func44, Tryd.ntmps44
  go_wp2_with fail
  refine (HD.out _ HU.out).mono ?_
  rintro e w1 ⟨rfl, b1⟩
  go_wp2
  exact bodyPost_ret (v := .tuple #[.int .i32 c, .int .i64 z]) (by simp [results, Tryd.results44, go_sem]) rfl ⟨rfl, b1⟩
theorem decodeGo_high (s : ByteArray) (h0 : 0 < s.size) (hhi : (128 : Int) ≤ s[0].toNat) : 128 ≤ (Lib.decodeGo s).1 := by
  unfold Lib.decodeGo
  rw [if_neg (by omega)]
  exact (decode_high s 0 h0 (by omega)).1

theorem ext_size (s : ByteArray) (k : Nat) (hk : k < s.size) : 0 < (s.extract k s.size).size := by rw [ByteArray.size_extract]; omega
theorem ext_get (s : ByteArray) (k : Nat) (hk : k < s.size) : (s.extract k s.size)[0]'(ext_size s k hk) = s[k] := by
  have h1 : (s.extract k s.size)[0]'(ext_size s k hk) = (s.extract k s.size).data.toList[0]'(by simpa using ext_size s k hk) := rfl
  rw [h1]
  have h2 : (s.extract k s.size).data.toList = s.data.toList.drop k := by rw [mid_data]; simp [List.take_of_length_le]
  have h3 := drop_one s k hk
  rw [h3] at h2
  simp only [h2, List.getElem_cons_zero]
set_option maxRecDepth 100000 in
set_option maxHeartbeats 1000000 in
/-- (*reader).peek at the end of the text -/
theorem peek_end (R : Nat) (s : ByteArray) (w : World) (hr : Rd w R s s.size) :
    Calls Tryd.prog 34 #[.pointer (some ⟨R, 0, none⟩)] w fun e w' => e = .returned (.int .i32 (-1)) ∧ Below w.heap.size w w' := by
  obtain ⟨c0, c1⟩ := hr.loc.two
  have hee : ((s.size : Int) == s.size) = true := by simp
  clear hr
  go_enter Tryd.func34, Tryd.ntmps34
  go_wp2
  refine region_grown (by kernel_rfl) (by kernel_rfl) ?_
  repeat (go_big_quiet_step ((intro hu; have j0 := hu.cell c0; have j1 := hu.cell c1; go_simp; (try exact rfl))))
  refine wpQuiet_nil ?_
  intro w1 b1
  have hb1 : Below w.heap.size w w1 := b1
  clear b1 c0 c1
  go_wp2
  go_ret
  exact ⟨rfl, hb1⟩
set_option maxRecDepth 100000 in
set_option maxHeartbeats 1000000 in
/-- (*reader).peek at a byte below 128 -/
theorem peek_low (R : Nat) (s : ByteArray) (k : Nat) (w : World) (hk : k < s.size) (hr : Rd w R s k) (hlo : (s[k].toNat : Int) < 128) :
    Calls Tryd.prog 34 #[.pointer (some ⟨R, 0, none⟩)] w fun e w' => e = .returned (.int .i32 s[k].toNat) ∧ Below w.heap.size w w' := by
  obtain ⟨c0, c1⟩ := hr.loc.two
  have hki : (k : Int) < s.size := by omega
  have hkl : (k : Int) ≤ s.size := by omega
  have hee : ((k : Int) == s.size) = false := by simp; omega
  have HD : Hid (∀ u : World, Calls Tryd.prog 44 #[.string (s.extract k s.size)] u fun e w' => e = .returned (.tuple #[.int .i32 s[k].toNat, .int .i64 1]) ∧ w' = u) := fun u => by
    have := decode_low (s.extract k s.size) u (ext_size s k hk) (by rw [ext_get s k hk]; exact hlo)
    rwa [ext_get s k hk] at this
  clear hr
  have hge : decide ((128 : Int) ≤ s[k].toNat) = false := by simp; omega
  go_enter Tryd.func34, Tryd.ntmps34
  go_wp2
  refine region_grown (by kernel_rfl) (by kernel_rfl) ?_
  repeat (go_big_quiet_step ((intro hu; have j0 := hu.cell c0; have j1 := hu.cell c1; go_simp; (try exact rfl))))
  refine wpQuiet_nil ?_
  intro w1 b1
  have hb1 : Below w.heap.size w w1 := b1
  have c0 := cell_on c0 b1
  have c1 := cell_on c1 b1
  clear b1
  go_wp2
  refine region_grown (by kernel_rfl) (by kernel_rfl) ?_
  repeat (go_big_quiet_step (first | (intro hu; go_at_call 44; exact hu.call ((HD.out _).mono fun e w' ⟨h1, h2⟩ => ⟨h1, h2 ▸ Below.refl _ _⟩)) | (intro hu; have j0 := hu.cell c0; have j1 := hu.cell c1; go_simp; (try exact rfl))))
  refine wpQuiet_nil ?_
  intro w2 b2
  have hb2 : Below w.heap.size w w2 := ch_trans hb1 b2
  clear b2 c0 c1
  go_wp2
  go_ret
  exact ⟨rfl, hb2⟩
set_option maxRecDepth 100000 in
set_option maxHeartbeats 1000000 in
/-- (*reader).peek at a byte from 128 on -/
theorem peek_high (R : Nat) (s : ByteArray) (k : Nat) (w : World) (hk : k < s.size) (hr : Rd w R s k) (hhi : (128 : Int) ≤ s[k].toNat) (hU : Uni w) :
    Calls Tryd.prog 34 #[.pointer (some ⟨R, 0, none⟩)] w fun e w' => e = gone ∧ Below w.heap.size w w' := by
  obtain ⟨c0, c1⟩ := hr.loc.two
  have hki : (k : Int) < s.size := by omega
  have hkl : (k : Int) ≤ s.size := by omega
  have hee : ((k : Int) == s.size) = false := by simp; omega
  have HU : Hid (Uni w) := hU
  have HD : Hid (∀ u : World, Uni u → Calls Tryd.prog 44 #[.string (s.extract k s.size)] u fun e w' => e = .returned (.tuple #[.int .i32 (Lib.decodeGo (s.extract k s.size)).1, .int .i64 (Lib.decodeGo (s.extract k s.size)).2]) ∧ Below u.heap.size u w') := fun u hu => decode_hi (s.extract k s.size) u (ext_size s k hk) (by rw [ext_get s k hk]; exact hhi) hu
  have h128 := decodeGo_high (s.extract k s.size) (ext_size s k hk) (by rw [ext_get s k hk]; exact hhi)
  clear hr hU
  generalize (Lib.decodeGo (s.extract k s.size)).1 = c at HD h128
  generalize (Lib.decodeGo (s.extract k s.size)).2 = z at HD
  have hge : decide ((128 : Int) ≤ c) = true := by simp; omega
  clear h128 hhi
  go_enter Tryd.func34, Tryd.ntmps34
  go_wp2
  refine region_grown (by kernel_rfl) (by kernel_rfl) ?_
  repeat (go_big_quiet_step ((intro hu; have j0 := hu.cell c0; have j1 := hu.cell c1; go_simp; (try exact rfl))))
  refine wpQuiet_nil ?_
  intro w1 b1
  have hb1 : Below w.heap.size w w1 := b1
  have HU1 : Hid (Uni w1) := HU.out.on hb1 HU.out.lt.1 HU.out.lt.2
  have c0 := cell_on c0 b1
  have c1 := cell_on c1 b1
  clear b1 HU
  go_wp2
  refine region_grown (by kernel_rfl) (by kernel_rfl) ?_
  repeat (go_big_quiet_step (first | (intro hu; go_at_call 44; exact hu.call (HD.out _ (HU1.out.on (show Below _ _ _ from hu) HU1.out.lt.1 HU1.out.lt.2))) | (intro hu; have j0 := hu.cell c0; have j1 := hu.cell c1; go_simp; (try exact rfl))))
  refine wpQuiet_nil ?_
  intro w2 b2
  have hb2 : Below w.heap.size w w2 := ch_trans hb1 b2
  clear b2 c0 c1
  go_wp2
  exact ⟨rfl, rfl, hb2⟩
end Go.Proofs.YtmkgbdgafjeeiamDoor
