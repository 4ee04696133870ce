/- The cursor over the bytes of a draw: what it is, and the given functions that draw from it. -/
import Derived.Test.YtihilcffmdjhhafDoorRows
import Derived.WalkKit
import Derived.ProofKit
import Derived.OpenShut
import Derived.Below
import Derived.WalkLawsBesides
import Derived.BigQuiet
import Derived.Deep.QuietTactic
import Derived.Laws.Bits128
namespace Go.Proofs.YtihilcffmdjhhafDoor
open Go.ChangeShapes Go.WideShapes Go.ChangeAt Go.RowKit

/-- Only block P may have turned; nothing is new. -/
structure Only (P : Nat) (w w' : World) : Prop where
  os : w'.os = w.os
  tape : w'.tape = w.tape
  output : w'.output = w.output
  size : w'.heap.size = w.heap.size
  block : ∀ k, k ≠ P → w'.heap[k]? = w.heap[k]?
theorem Only.refl (P : Nat) (w : World) : Only P w w := ⟨rfl, rfl, rfl, rfl, fun _ _ => rfl⟩
theorem Only.trans {P : Nat} {a b c : World} (h : Only P a b) (k : Only P b c) : Only P a c :=
  ⟨k.os.trans h.os, k.tape.trans h.tape, k.output.trans h.output, k.size.trans h.size, fun j hj => (k.block j hj).trans (h.block j hj)⟩
theorem Only.draws {P : Nat} {a w : World} (k : Nat) (h : Only P a w) : Only P a (w.drewN k) := ⟨h.os, h.tape, h.output, h.size, h.block⟩
theorem Only.drew {P : Nat} {a w : World} (h : Only P a w) : Only P a w.drew := ⟨h.os, h.tape, h.output, h.size, h.block⟩
theorem Only.setCell {P : Nat} {a w : World} (h : Only P a w) (o : Nat) (v : Value) : Only P a (w.setCell ⟨P, o, none⟩ v) :=
  ⟨h.os, h.tape, h.output, (by simp [h.size]), fun k hk => (Below.heap_setCell w ⟨P, o, none⟩ v k hk).trans (h.block k hk)⟩
theorem Only.below {P B : Nat} {w w' : World} (h : Only P w w') (hB : B ≤ P) : Below B w w' :=
  ⟨h.os, h.tape, h.output, Nat.le_of_eq h.size.symm, fun k hk => h.block k (by omega)⟩
theorem Only.cell {P : Nat} {w w' : World} (h : Only P w w') {p : Addr} (hp : p.block ≠ P) : w'.cell? p = w.cell? p := World.cell?_of_block (w := w) (h.block p.block hp)

/-- The bytes of a code that came in: below B. -/
def Code (B : Nat) (a : Option Addr) (len : Nat) (w : World) : Prop :=
  len = 0 ∨ ∃ b off, a = some ⟨b, off, none⟩ ∧ b < B ∧ ∀ j, j < len → ∃ z : Int, 0 ≤ z ∧ z ≤ 255 ∧ w.cell? ⟨b, off + j, none⟩ = some (.int .u8 z)
theorem Code.on {B : Nat} {a : Option Addr} {len : Nat} {w w' : World} (h : Code B a len w) (hb : Below B w w') : Code B a len w' := by
  rcases h with h | ⟨b, off, ha, hlt, h⟩
  · exact Or.inl h
  · refine Or.inr ⟨b, off, ha, hlt, fun j hj => ?_⟩
    obtain ⟨z, z0, z1, hz⟩ := h j hj
    exact ⟨z, z0, z1, (hb.cell (p := ⟨b, off + j, none⟩) hlt).trans hz⟩
/-- A cursor: its block, not below B. -/
structure Cur (B P : Nat) (a : Option Addr) (len cap : Nat) (w : World) : Prop where
  own : B ≤ P
  here : P < w.heap.size
  c0 : w.cell? ⟨P, 0, none⟩ = some (.slice a len cap)
  c1 : ∃ i : Int, 0 ≤ i ∧ i ≤ len ∧ w.cell? ⟨P, 1, none⟩ = some (.int .i64 i)
  c2 : ∃ h : Int, w.cell? ⟨P, 2, none⟩ = some (.int .i64 h)
  f1 : w.frozen? ⟨P, 1, none⟩ = false
  f2 : w.frozen? ⟨P, 2, none⟩ = false
  code : Code B a len w
  few : len ≤ 1048576

theorem and255 (n : Int) : bits .and .i64 n 255 = n % 256 := by
  have h255 : (BitVec.ofInt 64 255).toNat = 2 ^ 8 - 1 := by decide
  have key : (BitVec.ofInt 64 n &&& BitVec.ofInt 64 255).toNat = (n % ((2 ^ 64 : Nat) : Int)).toNat % 2 ^ 8 := by
    rw [BitVec.toNat_and, BitVec.toNat_ofInt, h255, Nat.and_two_pow_sub_one_eq_mod]
  show IntKind.i64.wrap ((BitVec.ofInt 64 n &&& BitVec.ofInt 64 255).toNat : Nat) = n % 256
  rw [key, IntKind.wrap_i64]
  omega
theorem and255_le (n : Int) : 0 ≤ bits .and .i64 n 255 ∧ bits .and .i64 n 255 ≤ 255 := by rw [and255]; omega

theorem Cur.set2 {B P : Nat} {a : Option Addr} {len cap : Nat} {w : World} (h : Cur B P a len cap w) (v : Int) : Cur B P a len cap (w.setCell ⟨P, 2, none⟩ (.int .i64 v)) := by
  obtain ⟨hBP, hP, c0, ⟨i, hi0, hi1, c1⟩, ⟨hh, c2⟩, f1, f2, hcode, hfew⟩ := h
  refine ⟨hBP, by simpa using hP, ?_, ⟨i, hi0, hi1, ?_⟩, ⟨v, ?_⟩, by simp [f1], by simp [f2], hcode.on (Below.setCell (Below.refl _ _) hBP _), hfew⟩
  · simp [go_sem, c0]
  · simp [go_sem, c1]
  · simp [go_sem, c2]
theorem Cur.set1 {B P : Nat} {a : Option Addr} {len cap : Nat} {w : World} (h : Cur B P a len cap w) (v : Int) (h0 : 0 ≤ v) (h1 : v ≤ len) : Cur B P a len cap (w.setCell ⟨P, 1, none⟩ (.int .i64 v)) := by
  obtain ⟨hBP, hP, c0, ⟨i, hi0, hi1, c1⟩, ⟨hh, c2⟩, f1, f2, hcode, hfew⟩ := h
  refine ⟨hBP, by simpa using hP, ?_, ⟨v, h0, h1, ?_⟩, ⟨hh, ?_⟩, by simp [f1], by simp [f2], hcode.on (Below.setCell (Below.refl _ _) hBP _), hfew⟩
  · simp [go_sem, c0]
  · simp [go_sem, c1]
  · simp [go_sem, c2]
theorem Cur.draws {B P : Nat} {a : Option Addr} {len cap : Nat} {w : World} (h : Cur B P a len cap w) (k : Nat) : Cur B P a len cap (w.drewN k) :=
  ⟨h.own, h.here, h.c0, h.c1, h.c2, h.f1, h.f2, h.code, h.few⟩
theorem Cur.drew {B P : Nat} {a : Option Addr} {len cap : Nat} {w : World} (h : Cur B P a len cap w) : Cur B P a len cap w.drew :=
  ⟨h.own, h.here, h.c0, h.c1, h.c2, h.f1, h.f2, h.code, h.few⟩
/-- The cursor stands where all blocks stand. -/
theorem Cur.on {B P : Nat} {a : Option Addr} {len cap : Nat} {w w' : World} (h : Cur B P a len cap w) (hb : Below (P + 1) w w') : Cur B P a len cap w' := by
  have e := fun o => hb.cell (p := ⟨P, o, none⟩) (Nat.lt_succ_self P)
  have f := fun o => hb.frozen (p := ⟨P, o, none⟩) (Nat.lt_succ_self P)
  have hown := h.own
  refine ⟨h.own, Nat.lt_of_lt_of_le h.here hb.size, (e 0).trans h.c0, ?_, ?_, (f 1).trans h.f1, (f 2).trans h.f2, h.code.on (hb.mono (by omega)), h.few⟩
  · obtain ⟨i, i0, i1, c⟩ := h.c1; exact ⟨i, i0, i1, (e 1).trans c⟩
  · obtain ⟨x, c⟩ := h.c2; exact ⟨x, (e 2).trans c⟩

set_option maxRecDepth 100000 in
set_option maxHeartbeats 1000000 in
/-- spec.l01Byte -/
theorem byte_any (B P : Nat) (a : Option Addr) (len cap : Nat) (w : World) (hC : Cur B P a len cap w) :
    Calls Tryd.prog 21 #[.pointer (some ⟨P, 0, none⟩)] w fun e w' => ∃ x, e = .returned (.int .i64 x) ∧ 0 ≤ x ∧ x ≤ 255 ∧ Cur B P a len cap w' ∧ Only P w w' := by
  have HCC : Hid (Cur B P a len cap w) := hC
  obtain ⟨hBP, hP, c0, ⟨i, hi0, hi1, c1⟩, ⟨h, c2⟩, f1, f2, hcode, hfew⟩ := hC
  have hfi : (len : Int) ≤ 1048576 := by omega
  have HC : Hid (Code B a len w) := hcode
  clear hcode
  obtain ⟨k, rfl⟩ := Int.eq_ofNat_of_zero_le hi0
  by_cases hlt : k < len
  · obtain ⟨b, off, ha, hbB, hrow⟩ : ∃ b off, a = some ⟨b, off, none⟩ ∧ b < B ∧ ∀ j, j < len → ∃ z : Int, 0 ≤ z ∧ z ≤ 255 ∧ w.cell? ⟨b, off + j, none⟩ = some (.int .u8 z) := by
      rcases HC.out with h | h
      · omega
      · exact h
    obtain ⟨z, z0, z1, hz⟩ := hrow k hlt
    subst ha
    have hbP : b ≠ P := by omega
    clear hrow
    have hlti : (k : Int) < len := by omega
    go_enter Tryd.func21, Tryd.ntmps21
    go_wp2
    go_quiet (fail)
    go_wp2
    go_quiet (fail)
    go_wp2
    go_quiet (fail)
    go_wp2
    go_ret
    exact ⟨_, rfl, (and255_le _).1, (and255_le _).2, ((HCC.out.set2 _).draws _).set1 _ (by omega) (by omega), by repeat (first | exact Only.refl _ _ | refine Only.draws _ ?_ | refine Only.drew ?_ | refine Only.setCell ?_ _ _)⟩
  · have hlti : ¬ (k : Int) < len := by omega
    go_enter Tryd.func21, Tryd.ntmps21
    go_wp2
    go_quiet (fail)
    go_wp2
    go_quiet (fail)
    go_wp2
    go_ret
    exact ⟨_, rfl, (and255_le _).1, (and255_le _).2, ((HCC.out.set2 _).draws _).draws _, by repeat (first | exact Only.refl _ _ | refine Only.draws _ ?_ | refine Only.drew ?_ | refine Only.setCell ?_ _ _)⟩

/-- What a draw below n may be. -/
def Dr (n x : Int) : Prop := (n ≤ 0 → x = 0) ∧ (0 < n → 0 ≤ x ∧ x < n)
set_option maxRecDepth 100000 in
set_option maxHeartbeats 1000000 in
/-- spec.l01Below -/
theorem below_any (B P : Nat) (a : Option Addr) (len cap : Nat) (n : Int) (w : World) (hn : n ≤ 9223372036854775807) (hC : Cur B P a len cap w) :
    Calls Tryd.prog 13 #[.pointer (some ⟨P, 0, none⟩), .int .i64 n] w fun e w' => ∃ x, e = .returned (.int .i64 x) ∧ Dr n x ∧ Cur B P a len cap w' ∧ Only P w w' := by
  have HC : Hid (Cur B P a len cap w) := hC
  clear hC
  by_cases h0 : n ≤ 0
  · go_enter Tryd.func13, Tryd.ntmps13
    go_wp2
    go_ret
    exact ⟨0, rfl, ⟨fun _ => rfl, fun h => by omega⟩, HC.out, Only.refl _ _⟩
  by_cases h1 : n ≤ 256
  · have hne : (n == 0) = false := by rw [beq_eq_false_iff_ne]; omega
    go_enter Tryd.func13, Tryd.ntmps13
    go_wp2_with fail
    refine (byte_any B P a len cap _ HC.out).mono ?_
    rintro e w1 ⟨x, rfl, x0, x1, hc1, ho1⟩
    go_wp2
    go_ret
    exact ⟨_, rfl, ⟨fun h => by omega, fun h => ⟨Int.emod_nonneg _ (by omega), Int.emod_lt_of_pos _ h⟩⟩, hc1, ho1⟩
  · have hne : (n == 0) = false := by rw [beq_eq_false_iff_ne]; omega
    go_enter Tryd.func13, Tryd.ntmps13
    go_wp2_with fail
    refine (byte_any B P a len cap _ HC.out).mono ?_
    rintro e w1 ⟨x, rfl, x0, x1, hc1, ho1⟩
    have HC1 : Hid (Cur B P a len cap w1) := hc1
    clear hc1
    go_wp2_with fail
    refine (byte_any B P a len cap _ HC1.out).mono ?_
    rintro e w2 ⟨y, rfl, y0, y1, hc2, ho2⟩
    have HC2 : Hid (Cur B P a len cap w2) := hc2
    clear hc2
    go_wp2_with fail
    refine (byte_any B P a len cap _ HC2.out).mono ?_
    rintro e w3 ⟨z, rfl, z0, z1, hc3, ho3⟩
    have HC3 : Hid (Cur B P a len cap w3) := hc3
    clear hc3
    go_wp2_with fail
    refine (byte_any B P a len cap _ HC3.out).mono ?_
    rintro e w4 ⟨u, rfl, u0, u1, hc4, ho4⟩
    go_wp2
    go_ret
    exact ⟨_, rfl, ⟨fun h => by omega, fun h => ⟨Int.emod_nonneg _ (by omega), Int.emod_lt_of_pos _ h⟩⟩, hc4, ((ho1.trans ho2).trans ho3).trans ho4⟩
end Go.Proofs.YtihilcffmdjhhafDoor
