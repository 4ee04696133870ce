/- The cursor that a draw begins with, and the blocks that a draw keeps. -/
import Derived.Test.YtihilcffmdjhhafDoorCur
namespace Go.Proofs.YtihilcffmdjhhafDoor
open Go.ChangeShapes Go.WideShapes Go.ChangeAt Go.RowKit

/-- Block P may have turned, others are new: all else is as it was. -/
structure Keep (P : Nat) (w w' : World) : Prop where
  os : w'.os = w.os
  tape : w'.tape = w.tape
  output : w'.output = w.output
  size : w.heap.size ≤ w'.heap.size
  block : ∀ k, k < w.heap.size → k ≠ P → w'.heap[k]? = w.heap[k]?
theorem Keep.refl (P : Nat) (w : World) : Keep P w w := ⟨rfl, rfl, rfl, Nat.le_refl _, fun _ _ _ => rfl⟩
theorem Only.keep {P : Nat} {w w' : World} (h : Only P w w') : Keep P w w' := ⟨h.os, h.tape, h.output, Nat.le_of_eq h.size.symm, fun k _ hk => h.block k hk⟩
theorem Keep.trans {P : Nat} {a b c : World} (h : Keep P a b) (k : Keep P b c) : Keep P a c :=
  ⟨k.os.trans h.os, k.tape.trans h.tape, k.output.trans h.output, Nat.le_trans h.size k.size, fun j hj hn => (k.block j (Nat.lt_of_lt_of_le hj h.size) hn).trans (h.block j hj hn)⟩
theorem Keep.only {P : Nat} {a b c : World} (h : Keep P a b) (k : Only P b c) : Keep P a c := h.trans k.keep
theorem Keep.belowOn {P : Nat} {a b c : World} (h : Keep P a b) (k : Below b.heap.size b c) : Keep P a c :=
  h.trans ⟨k.os, k.tape, k.output, k.size, fun j hj _ => k.block j hj⟩
theorem Keep.alloc {P : Nat} {a w : World} (h : Keep P a w) (o : Obj) : Keep P a (w.alloc o) := h.belowOn (Below.alloc (Below.refl _ _) (Nat.le_refl _) _)
theorem Keep.draws {P : Nat} {a w : World} (k : Nat) (h : Keep P a w) : Keep P a (w.drewN k) := ⟨h.os, h.tape, h.output, h.size, h.block⟩
theorem Keep.drew {P : Nat} {a w : World} (h : Keep P a w) : Keep P a w.drew := ⟨h.os, h.tape, h.output, h.size, h.block⟩
theorem Keep.below {P B : Nat} {w w' : World} (h : Keep P w w') (hB : B ≤ P) (hs : B ≤ w.heap.size) : Below B w w' :=
  ⟨h.os, h.tape, h.output, h.size, fun k hk => h.block k (by omega) (by omega)⟩
theorem Cur.alloc {B P : Nat} {a : Option Addr} {len cap : Nat} {w : World} (h : Cur B P a len cap w) (o : Obj) : Cur B P a len cap (w.alloc o) :=
  h.on (Below.alloc (Below.refl _ _) h.here _)
theorem cur_new (B : Nat) (a : Option Addr) (len cap : Nat) (w : World) (h : Int) (t : TypeId) (hB : B ≤ w.heap.size) (hcode : Code B a len w) (hfew : len ≤ 1048576) :
    Cur B w.heap.size a len cap (w.alloc (.cells #[.slice a len cap, .int .i64 0, .int .i64 h] t)) := by
  refine ⟨hB, by simp, by simp [go_sem], ⟨0, by omega, by omega, by simp [go_sem]⟩, ⟨h, by simp [go_sem]⟩, by simp [go_sem], by simp [go_sem], hcode.on (Below.alloc (Below.refl _ _) hB _), hfew⟩

set_option maxRecDepth 100000 in
set_option maxHeartbeats 1000000 in
/-- spec.l01New -/
theorem new_any (B : Nat) (a : Option Addr) (len cap : Nat) (w : World) (hB : B ≤ w.heap.size) (hcode : Code B a len w) (hfew : len ≤ 1048576) :
    Calls Tryd.prog 10 #[.slice a len cap] w fun e w' => ∃ P, e = .returned (.pointer (some ⟨P, 0, none⟩)) ∧ w.heap.size ≤ P ∧ Cur B P a len cap w' ∧ Below w.heap.size w w' := by
  have HC : Hid (Code B a len w) := hcode
  clear hcode
  have hfi : (len : Int) ≤ 1048576 := by omega
  go_enter Tryd.func10, Tryd.ntmps10
  go_wp2
  go_loopw [3, 4] (fun hv i wr => ∃ (k : Nat) (h : Int), k ≤ len ∧ i = .int .i64 k ∧ hv = .int .i64 h ∧ Below w.heap.size w wr) (fun _ i _ => len - (intOf i).toNat)
  case atStart => exact ⟨0, _, by omega, rfl, rfl, by repeat (first | exact Below.refl _ _ | refine Below.drew ?_)⟩
  case round =>
    obtain ⟨k, h, hk, rfl, rfl, hb⟩ := hrel
    by_cases hlt : (k : Int) < len
    · by_cases h4 : (k : Int) < 4000
      · obtain ⟨b, off, ha, hbB, hrow⟩ : ∃ b off, a = some ⟨b, off, none⟩ ∧ b < B ∧ ∀ j, j < len → ∃ z : Int, 0 ≤ z ∧ z ≤ 255 ∧ wr.cell? ⟨b, off + j, none⟩ = some (.int .u8 z) := by
          rcases (HC.out.on (hb.mono hB)) with h | h
          · omega
          · exact h
        obtain ⟨z, z0, z1, hz⟩ := hrow k (by omega)
        subst ha
        clear hrow
        go_wp2
        go_roundw
        case rel => exact ⟨k + 1, _, by omega, by go_num, rfl, hb⟩
        case measure => simp [intOf]; omega
      · go_wp2
        go_ret
        exact ⟨_, rfl, hb.size, cur_new B a len cap wr h _ (Nat.le_trans hB hb.size) (HC.out.on (hb.mono hB)) hfew, Below.alloc hb hb.size _⟩
    · go_wp2
      go_ret
      exact ⟨_, rfl, hb.size, cur_new B a len cap wr h _ (Nat.le_trans hB hb.size) (HC.out.on (hb.mono hB)) hfew, Below.alloc hb hb.size _⟩

/-- A draw below n, n above 0. -/
theorem below_pos (n : Int) (h0 : 0 < n) (hn : n ≤ 9223372036854775807) (B P : Nat) (a : Option Addr) (len cap : Nat) (w : World) (hC : Cur B P a len cap w) :
    Calls Tryd.prog 13 #[.pointer (some ⟨P, 0, none⟩), .int .i64 n] w fun e w' => ∃ x, e = .returned (.int .i64 x) ∧ 0 ≤ x ∧ x < n ∧ Cur B P a len cap w' ∧ Only P w w' :=
  (below_any B P a len cap n w hn hC).mono fun _ _ ⟨x, he, hd, hc, ho⟩ => ⟨x, he, (hd.2 h0).1, (hd.2 h0).2, hc, ho⟩

/-- What an int may be. -/
def I64 (x : Int) : Prop := -9223372036854775808 ≤ x ∧ x ≤ 9223372036854775807
set_option maxRecDepth 100000 in
set_option maxHeartbeats 1000000 in
/-- spec.l01Raw -/
theorem raw_any (B P : Nat) (a : Option Addr) (len cap : Nat) (w : World) (hC : Cur B P a len cap w) :
    Calls Tryd.prog 12 #[.pointer (some ⟨P, 0, none⟩)] w fun e w' => ∃ x, e = .returned (.int .i64 x) ∧ I64 x ∧ Cur B P a len cap w' ∧ Only P w w' := by
  have HC : Hid (Cur B P a len cap w) := hC
  clear hC
  go_enter Tryd.func12, Tryd.ntmps12
  go_wp2_with fail
  refine (below_pos 9 (by omega) (by omega) B P a len cap _ HC.out).mono ?_
  rintro e w1 ⟨x, rfl, x0, x1, hc1, ho1⟩
  have HC1 : Hid (Cur B P a len cap w1) := hc1
  clear hc1
  by_cases h4 : x < 4
  · go_wp2_with fail
    refine (below_pos 24 (by omega) (by omega) B P a len cap _ HC1.out).mono ?_
    rintro e w2 ⟨y, rfl, y0, y1, hc2, ho2⟩
    go_wp2
    go_ret
    exact ⟨_, rfl, ⟨by omega, by omega⟩, hc2, ho1.trans ho2⟩
  by_cases e4 : x = 4
  · subst e4
    go_wp2_with fail
    refine (below_pos 3 (by omega) (by omega) B P a len cap _ HC1.out).mono ?_
    rintro e w2 ⟨y, rfl, y0, y1, hc2, ho2⟩
    go_wp2
    go_ret
    exact ⟨_, rfl, ⟨by omega, by omega⟩, hc2, ho1.trans ho2⟩
  by_cases e5 : x = 5
  · subst e5
    go_wp2_with fail
    refine (below_pos 3 (by omega) (by omega) B P a len cap _ HC1.out).mono ?_
    rintro e w2 ⟨y, rfl, y0, y1, hc2, ho2⟩
    go_wp2
    go_ret
    exact ⟨_, rfl, ⟨by omega, by omega⟩, hc2, ho1.trans ho2⟩
  by_cases e6 : x = 6
  · subst e6
    go_wp2_with fail
    refine (below_pos 2 (by omega) (by omega) B P a len cap _ HC1.out).mono ?_
    rintro e w2 ⟨y, rfl, y0, y1, hc2, ho2⟩
    go_wp2
    go_ret
    exact ⟨_, rfl, ⟨by omega, by omega⟩, hc2, ho1.trans ho2⟩
  by_cases e7 : x = 7
  · subst e7
    go_wp2_with fail
    refine (below_pos 2 (by omega) (by omega) B P a len cap _ HC1.out).mono ?_
    rintro e w2 ⟨y, rfl, y0, y1, hc2, ho2⟩
    go_wp2
    go_ret
    exact ⟨_, rfl, ⟨by omega, by omega⟩, hc2, ho1.trans ho2⟩
  · have e8 : x = 8 := by omega
    subst e8
    go_wp2_with fail
    refine (below_pos 2000000 (by omega) (by omega) B P a len cap _ HC1.out).mono ?_
    rintro e w2 ⟨y, rfl, y0, y1, hc2, ho2⟩
    go_wp2
    go_ret
    exact ⟨_, rfl, ⟨by omega, by omega⟩, hc2, ho1.trans ho2⟩
end Go.Proofs.YtihilcffmdjhhafDoor
