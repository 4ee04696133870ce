/- A text that is drawn. -/
import Derived.Test.YtmgoplamocgfladDoorNew
import Derived.Test.YtmgoplamocgfladDoorTextI
namespace Go.Proofs.YtmgoplamocgfladDoor
open Go.ChangeShapes Go.WideShapes Go.ChangeAt Go.RowKit

theorem Own.only {B P : Nat} {w w' : World} {v : Value} {l : List UInt8} (h : Own B w v l) (ho : Only P w w') (hP : P < B) : Own B w' v l := by
  obtain ⟨h1, h2⟩ := h
  refine ⟨h1, ?_⟩
  rcases h2 with ⟨rfl, h0⟩ | ⟨g, cap, cur, rfl, hg, hh, hn, hm, hc, ht⟩
  · exact Or.inl ⟨rfl, h0⟩
  · exact Or.inr ⟨g, cap, cur, rfl, hg, (ho.block g (by omega)).trans hh, hn, hm, hc, ht⟩
theorem Keep.belowAt {P B : Nat} {a b c : World} (h : Keep P a b) (hB : a.heap.size ≤ B) (k : Below B b c) : Keep P a c :=
  ⟨k.os.trans h.os, k.tape.trans h.tape, k.output.trans h.output, Nat.le_trans h.size k.size, fun j hj hn => (k.block j (by omega)).trans (h.block j hj hn)⟩
theorem mk_size' (l : List UInt8) : (⟨l.toArray⟩ : ByteArray).size = l.length := by simp [ByteArray.size]
theorem own_empty (w : World) : Own w.heap.size (w.alloc (.cells #[] 5)) (.slice (some ⟨w.heap.size, 0, none⟩) 0 0) [] :=
  ⟨rfl, Or.inr ⟨w.heap.size, 0, #[], rfl, Nat.le_refl _, heap_alloc_new _ _, Nat.le_refl _, by unfold maxLen; omega, rfl, rfl⟩⟩
theorem byte_of (x : Int) (h0 : 0 ≤ x) (h1 : x ≤ 255) : ∃ c : UInt8, x = (c.toNat : Int) := by
  refine ⟨UInt8.ofNat x.toNat, ?_⟩
  rw [UInt8.toNat_ofNat']
  omega

set_option maxRecDepth 100000 in
set_option maxHeartbeats 1000000 in
/-- spec.l01Str -/
theorem str_any (B P : Nat) (a : Option Addr) (len cap : Nat) (w : World) (hC : Cur B P a len cap w) :
    Calls Tryd.prog 42 #[.pointer (some ⟨P, 0, none⟩)] w fun e w' => ∃ s, e = .returned (.string s) ∧ s.size ≤ 30 ∧ Cur B P a len cap w' ∧ Keep P w w' := by
  have HC : Hid (Cur B P a len cap w) := hC
  clear hC
  go_enter Tryd.func42, Tryd.ntmps42
  go_wp2_with fail
  refine (below_pos 10 (by omega) (by omega) B P a len cap _ HC.out).mono ?_
  rintro e w1 ⟨x, rfl, x0, x1, hc1, ho1⟩
  have HC1 : Hid (Cur B P a len cap w1) := hc1
  clear hc1
  by_cases h7 : x < 7
  · have HX : x = 0 ∨ x = 1 ∨ x = 2 ∨ x = 3 ∨ x = 4 ∨ x = 5 ∨ x = 6 := by omega
    clear h7 x0 x1
    rcases HX with rfl | rfl | rfl | rfl | rfl | rfl | rfl
    all_goals
      go_wp2
      first | go_quiet (fail) | skip
      go_wp2
      go_ret
      exact ⟨_, rfl, by decide, by repeat (first | exact HC1.out | refine Cur.draws ?_ _ | refine Cur.drew ?_ | refine Cur.alloc ?_ _), by repeat (first | exact ho1.keep | refine Keep.draws _ ?_ | refine Keep.drew ?_ | refine Keep.alloc ?_ _)⟩
  by_cases e7 : x = 7
  · subst e7
    go_wp2
    go_ret
    exact ⟨_, rfl, by decide, HC1.out, ho1.keep⟩
  have hP1 := HC1.out.here
  go_wp2_with fail
  refine (below_pos 31 (by omega) (by omega) B P a len cap _ HC1.out).mono ?_
  rintro e w2 ⟨n, rfl, n0, n1, hc2, ho2⟩
  have HC2 : Hid (Cur B P a len cap w2) := hc2
  clear hc2
  have hP2 := HC2.out.here
  go_wp2
  go_loopw [5, 6] (fun v i wr => ∃ (k : Nat) (l : List UInt8), (k : Int) ≤ n ∧ i = .int .i64 k ∧ l.length = k ∧ Own w2.heap.size wr v l ∧ Cur B P a len cap wr ∧ Keep P w2 wr) (fun _ i _ => n.toNat - (intOf i).toNat)
  case atStart => exact ⟨0, [], by omega, rfl, rfl, own_empty w2, HC2.out.alloc _, (Keep.refl _ _).alloc _⟩
  case round =>
    obtain ⟨k, l, hk, rfl, hl, hown, hcu, hkeep⟩ := hrel
    have HCU : Hid (Cur B P a len cap wr) := hcu
    clear hcu
    by_cases hlt : (k : Int) < n
    · go_wp2_with fail
      refine (byte_any B P a len cap _ HCU.out).mono ?_
      rintro e w3 ⟨x, rfl, x0, x1, hc3, ho3⟩
      have HC3 : Hid (Cur B P a len cap w3) := hc3
      clear hc3
      obtain ⟨c, rfl⟩ := byte_of x x0 x1
      have hz := hkeep.size
      have hz3 : wr.heap.size ≤ w3.heap.size := Nat.le_of_eq ho3.size.symm
      have hown3 := hown.only ho3 hP2
      have hk3 := hkeep.only ho3
      clear hown hkeep
      go_wp2_with (at_builtin; refine app_list rfl (.tmp 25) (.tmp 29) rfl w2.heap.size _ l rfl (hown3.alloc _) ⟨w3.heap.size, 0, none⟩ 1 1 [c] rfl rfl (cells1_new _ _ _) (by omega) (by simp; omega) ?_; intro v' w4 hown4 hb4)
      go_roundw
      case rel => exact ⟨k + 1, l ++ [c], by omega, by go_num, by simp; omega, hown4, (HC3.out.alloc _).on (hb4.mono (by omega)), (hk3.alloc _).belowAt (Nat.le_refl _) hb4⟩
      case measure => simp [intOf]; omega
    · have hcv := own_text hown
      go_wp2
      go_ret
      exact ⟨_, rfl, by rw [mk_size']; omega, HCU.out, ho1.keep.trans (ho2.keep.trans hkeep)⟩
end Go.Proofs.YtmgoplamocgfladDoor
