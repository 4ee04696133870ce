/- Drawn bytes and numbers. -/
import Derived.Test.YtihilcffmdjhhafDoorGn
import Derived.Test.YtihilcffmdjhhafDoorNew
namespace Go.Proofs.YtihilcffmdjhhafDoor
open Go.ChangeShapes Go.WideShapes Go.ChangeAt Go.RowKit

theorem Keep.base {P : Nat} {a b c : World} (h : Keep P a b) (k : Below a.heap.size b c) : Keep P a c :=
  ⟨k.os.trans h.os, k.tape.trans h.tape, k.output.trans h.output, Nat.le_trans h.size k.size, fun i hi hn => (k.block i hi).trans (h.block i hi hn)⟩
theorem getF_num (n : Nat) : ∀ (s a : Nat), getF a (numL n s) = a * 256 ^ s + n % 256 ^ s
  | 0, a => by simp [numL, getF, Nat.mod_one]
  | s + 1, a => by
    have ih := getF_num n s (a * 256 + (UInt8.ofNat (n / 256 ^ s)).toNat)
    show getF (a * 256 + _) (numL n s) = _
    rw [ih, dig_nat, Nat.mod_pow_succ, Nat.pow_succ, Nat.add_mul, Nat.mul_assoc a 256, Nat.mul_comm 256 (256 ^ s), Nat.mul_comm (n / 256 ^ s % 256), Nat.add_assoc, Nat.add_comm (256 ^ s * _)]
theorem getL_put (l : List UInt8) (n s : Nat) (h : n < 256 ^ s) : getL (l ++ numL n s) l.length s = n := by
  unfold getL
  rw [List.drop_left, List.take_of_length_le (by rw [numL_length]; exact Nat.le_refl _), getF_num, Nat.zero_mul, Nat.zero_add, Nat.mod_eq_of_lt h]
theorem Only.turns {P : Nat} {a b : World} (h : Only P a b) : Turns (fun c => c = P) a b := ⟨h.os, h.tape, h.output, Nat.le_of_eq h.size.symm, fun c _ hn => h.block c hn⟩
/-- Bytes at a place that is there, from block B on. -/
def SomeB (w : World) (B : Nat) (v : Value) (l : List UInt8) : Prop := ∃ b off cap, v = .slice (some ⟨b, off, none⟩) l.length cap ∧ B ≤ b ∧ RowAt w (some ⟨b, off, none⟩) 1 (l.map byX)
theorem Got.someB {w : World} {B : Nat} {T : TypeId} {v : Value} {l : List UInt8} (h : Got w B T 1 v (l.map byX)) (h0 : 1 ≤ l.length) : SomeB w B v l := by
  obtain ⟨a, cap, e, _, _, h3, h4⟩ := h.row
  obtain ⟨b, off, rfl, _⟩ := h3.bytes 0 h0
  exact ⟨b, off, cap, by simpa using e, h4 _ _ _ e, h3⟩
theorem RowAt.still {w w' : World} {P b off z : Nat} {xs : List (Array Value)} (h : RowAt w (some ⟨b, off, none⟩) z xs) (k : Keep P w w') (hb : b ≠ P) : RowAt w' (some ⟨b, off, none⟩) z xs := by
  refine ⟨h.1, ?_⟩
  rcases h.2 with h0 | ⟨b', off', e, h1⟩
  · exact Or.inl h0
  · cases e
    refine Or.inr ⟨b, off, rfl, fun i hi j hj => ?_⟩
    have h2 := h1 i hi j hj
    have h3 := h2
    rw [Array.getElem?_eq_getElem (by rw [h.1 _ (List.getElem_mem hi)]; exact hj)] at h3
    exact (World.cell?_of_block (w := w) (a := ⟨b, off + i * z + j, none⟩) (k.block b (cell_lt h3) hb)).trans h2
set_option maxRecDepth 100000 in
set_option maxHeartbeats 1000000 in
/-- spec.l06Bytes -/
theorem l06Bytes_any (B P : Nat) (a : Option Addr) (len cap : Nat) (w : World) (hC : Cur B P a len cap w) :
    Calls Tryd.prog 11 #[.pointer (some ⟨P, 0, none⟩), .int .i64 4] w fun e w' => ∃ v l, e = .returned v ∧ SomeB w' w.heap.size v l ∧ l.length ≤ 4 ∧ Cur B P a len cap w' ∧ Keep P w w' := by
  have HC : Hid (Cur B P a len cap w) := hC
  have hP := hC.here
  clear hC
  go_enter Tryd.func11, Tryd.ntmps11
  go_wp2_with fail
  refine (below_pos 5 (by omega) (by omega) B P a len cap _ (HC.out.alloc _)).mono ?_
  rintro e w1 ⟨x, rfl, hx0, hx1, hC1, ho1⟩
  have HC1 : Hid (Cur B P a len cap w1) := hC1
  have HK1 : Hid (Keep P w w1) := ((Keep.refl P w).alloc _).only ho1
  have HG1 : Hid (Got w1 w.heap.size 5 1 (.slice (some ⟨w.heap.size, 0, none⟩) 0 0) (([] : List UInt8).map byX)) := (Got.empty w 5 1).turns ho1.turns fun c hc => by omega
  obtain ⟨X, rfl⟩ : ∃ X : Nat, x = (X : Int) := ⟨x.toNat, by omega⟩
  clear hC1 ho1
  go_wp2
  go_loopw [5, 6] (fun q i wr => ∃ (k : Nat) (l : List UInt8), i = .int .i64 (k : Int) ∧ l.length + k ≤ 4 ∧ Hid (Cur B P a len cap wr) ∧ Hid (Keep P w wr) ∧ Hid (Got wr w.heap.size 5 1 q (l.map byX)) ∧ Hid (SomeB wr w.heap.size q l)) (fun _ i _ => (intOf i).toNat)
  case atStart => exact ⟨X, [], rfl, by simp; omega, HC1, HK1, HG1, ⟨_, _, _, rfl, Nat.le_refl _, RowAt.nil _ _ _⟩⟩
  case round =>
    clear HC1 HK1 HG1
    obtain ⟨k, l, rfl, hkl, HC1, HK1, HG1, HS1⟩ := hrel
    obtain ⟨a1, n1, c1, rfl, hg⟩ := HG1.out.lit2
    have HG : Hid (Got wr w.heap.size 5 1 (.slice a1 n1 c1) (l.map byX)) := hg
    clear hg HG1
    cases k with
    | zero =>
      go_wp2
      go_ret
      exact ⟨_, l, rfl, HS1.out, by omega, HC1.out, HK1.out⟩
    | succ j =>
      have hk0 : (0 : Int) < ((j + 1 : Nat) : Int) := by omega
      go_wp2_with fail
      refine (byte_any B P a len cap _ HC1.out).mono ?_
      rintro e w2 ⟨y, rfl, hy0, hy1, hC2, ho2⟩
      obtain ⟨Y, rfl⟩ : ∃ Y : Nat, y = (Y : Int) := ⟨y.toNat, by omega⟩
      have HC2 : Hid (Cur B P a len cap w2) := hC2
      have HK2 : Hid (Keep P w w2) := HK1.out.only ho2
      have HG2 : Hid (Got w2 w.heap.size 5 1 (.slice a1 n1 c1) (l.map byX)) := HG.out.turns ho2.turns fun c hc => by omega
      have HX : Hid (byX (UInt8.ofNat Y) = #[.int .u8 (Y : Int)]) := by
        show #[Value.int .u8 _] = _
        rw [UInt8.toNat_ofNat', Nat.mod_eq_of_lt (by omega)]
      have hz2 : w.heap.size ≤ w2.heap.size := HK2.out.size
      clear hC2 ho2
      go_wp2_with (at_builtin; refine app_one rfl (.tmp 16) (.tmp 20) rfl Tryd.underlying22 infoByte rfl (by decide) (by decide) w.heap.size _ (l.map byX) rfl (HG2.out.on (ch_alloc (Below.refl _ _) _)) w2.heap.size 1 #[.int .u8 (Y : Int)] rfl (Loc.new _ _ _) rfl (fun u hu => by simp at hu; subst hu; rfl) (by simp; omega) (by simp; omega) ?_; intro v3 w3 hg3 hb3)
      have HG3 : Hid (Got w3 w.heap.size 5 1 v3 ((l ++ [UInt8.ofNat Y]).map byX)) := by
        show Got _ _ _ _ _ _
        rw [List.map_append, List.map_cons, List.map_nil, HX.out]; exact hg3
      have HC3 : Hid (Cur B P a len cap w3) := (HC2.out.alloc _).on (hb3.mono (by omega))
      have HK3 : Hid (Keep P w w3) := (HK2.out.alloc _).base hb3
      clear hg3 hb3
      go_round
      case rel => exact ⟨j, l ++ [UInt8.ofNat Y], by go_num, by simp; omega, HC3, HK3, HG3, HG3.out.someB (by simp)⟩
      case measure => simp [intOf]

set_option maxRecDepth 100000 in
set_option maxHeartbeats 1000000 in
/-- spec.DrawPutNum -/
theorem draw_putNum (a : Option Addr) (len cap : Nat) (w : World) (hcode : Code w.heap.size a len w) (hfew : len ≤ 1048576) :
    Calls Tryd.prog 4 #[.slice a len cap] w fun e w' => ∃ v l n s, e = .returned (.tuple #[v, .int .i64 n, .int .i64 s]) ∧ SomeB w' w.heap.size v l ∧ l.length ≤ 4 ∧ I64 n ∧ 1 ≤ s ∧ s ≤ 7 ∧ Below w.heap.size w w' := by
  go_enter Tryd.func4, Tryd.ntmps4
  go_wp2_with fail
  refine (new_any w.heap.size a len cap w (Nat.le_refl _) hcode hfew).mono ?_
  rintro e w1 ⟨P, rfl, hP, hC1, hb1⟩
  have HC1 : Hid (Cur w.heap.size P a len cap w1) := hC1
  have hP1 := hC1.here
  clear hC1
  go_wp2_with fail
  refine (l06Bytes_any _ P a len cap _ HC1.out).mono ?_
  rintro e w2 ⟨v, l, rfl, ⟨b, off, c, rfl, hbb, hr⟩, hl4, hC2, hk2⟩
  have HC2 : Hid (Cur w.heap.size P a len cap w2) := hC2
  have HB2 : Hid (Below w.heap.size w w2) := hb1.trans (hk2.below hP (Nat.le_trans hP (by omega)))
  have HR2 : Hid (RowAt w2 (some ⟨b, off, none⟩) 1 (l.map byX)) := hr
  clear hC2 hk2 hr hb1
  go_wp2_with fail
  refine (raw_any _ P a len cap _ HC2.out).mono ?_
  rintro e w3 ⟨n, rfl, hn, hC3, ho3⟩
  have HC3 : Hid (Cur w.heap.size P a len cap w3) := hC3
  have HN : Hid (I64 n) := hn
  have HO3 : Hid (Keep P w2 w3) := ho3.keep
  clear hC3 hn ho3
  go_wp2_with fail
  refine (below_pos 7 (by omega) (by omega) _ P a len cap _ HC3.out).mono ?_
  rintro e w4 ⟨x, rfl, hx0, hx1, hC4, ho4⟩
  have HC4 : Hid (Cur w.heap.size P a len cap w4) := hC4
  have HO4 : Hid (Keep P w2 w4) := HO3.out.only ho4
  clear hC4 ho4
  go_wp2_with fail
  refine (below_pos 3 (by omega) (by omega) _ P a len cap _ HC4.out).mono ?_
  rintro e w5 ⟨y, rfl, hy0, hy1, hC5, ho5⟩
  have HC5 : Hid (Cur w.heap.size P a len cap w5) := hC5
  have HO5 : Hid (Keep P w2 w5) := HO4.out.only ho5
  clear hC5 ho5
  have hbP : b ≠ P := by omega
  have hbw : w.heap.size ≤ b := by omega
  have HSB : Hid (∀ u : World, Keep P w2 u → SomeB u w.heap.size (.slice (some ⟨b, off, none⟩) l.length c) l) := fun u hu => ⟨b, off, c, rfl, hbw, HR2.out.still hu hbP⟩
  have HBE : Hid (∀ u : World, Keep P w2 u → Below w.heap.size w u) := fun u hu => HB2.out.trans (hu.below hP HB2.out.size)
  by_cases hy : y = 0
  · subst hy
    go_wp2_with fail
    refine (below_pos 6 (by omega) (by omega) _ P a len cap _ HC5.out).mono ?_
    rintro e w6 ⟨z, rfl, hz0, hz1, hC6, ho6⟩
    obtain ⟨Z, rfl⟩ : ∃ Z : Nat, z = (Z : Int) := ⟨z.toNat, by omega⟩
    have HC6 : Hid (Cur w.heap.size P a len cap w6) := hC6
    have HO6 : Hid (Keep P w2 w6) := HO5.out.only ho6
    clear hC6 ho6
    have HPW : Hid (∀ u : World, Calls Tryd.prog 14 #[.int .i64 (1 + (Z : Int))] u fun e w' => e = .returned (.int .i64 ((256 ^ (1 + Z) : Nat) : Int)) ∧ Below u.heap.size u w') := fun u => by
      have h := l06Pow_any (1 + Z) u (by omega)
      rwa [show (((1 + Z : Nat)) : Int) = 1 + (Z : Int) by omega] at h
    have hpz := pow_le6 (k := 1 + Z) (by omega)
    have hpz0 : 0 < 256 ^ (1 + Z) := Nat.pow_pos (by omega)
    generalize 256 ^ (1 + Z) = Q at HPW hpz hpz0
    go_wp2_with fail
    refine (HPW.out _).mono ?_
    rintro e w7 ⟨rfl, b7⟩
    have HC7 : Hid (Cur w.heap.size P a len cap w7) := HC6.out.on (b7.mono HC6.out.here)
    have HO7 : Hid (Keep P w2 w7) := HO6.out.belowOn b7
    clear b7
    go_wp2_with fail
    refine (below_pos 2 (by omega) (by omega) _ P a len cap _ HC7.out).mono ?_
    rintro e w8 ⟨t, rfl, ht0, ht1, hC8, ho8⟩
    have HO8 : Hid (Keep P w2 w8) := HO7.out.only ho8
    clear hC8 ho8
    go_wp2
    go_ret3
    exact ⟨_, l, _, _, rfl, HSB.out _ HO8.out, hl4, ⟨by omega, by omega⟩, by omega, by omega, HBE.out _ HO8.out⟩
  · have hy' : (y == 0) = false := by simp; exact hy
    go_wp2
    go_ret3
    exact ⟨_, l, _, _, rfl, HSB.out _ HO5.out, hl4, HN.out, by omega, by omega, HBE.out _ HO5.out⟩
end Go.Proofs.YtihilcffmdjhhafDoor
