/- The contracts of NumText, given and landed. -/
import Derived.Test.YtihilcffmdjhhafDoorLib
import Derived.Test.YtihilcffmdjhhafDoorVals
import Derived.Deep.RegionWith
namespace Go.Proofs.YtihilcffmdjhhafDoor
open Go.ChangeShapes Go.WideShapes Go.ChangeAt Go.RowKit

abbrev str (l : List UInt8) : Value := .string ⟨l.toArray⟩

/-- A text of one byte. -/
theorem one_byte (w : World) (x : Int) (h0 : 0 ≤ x) (h1 : x < 256) (a : Addr) (hc : w.cell? a = some (.int .u8 x)) :
    (convert 22 9 (.slice (some a) 1 1)).run Tryd.prog w = .ok (str [UInt8.ofNat x.toNat]) w := by
  have := run_convert_bytes_back (P := Tryd.prog) w 22 9 5 a 1 [UInt8.ofNat x.toNat] Tryd.underlying22 Tryd.underlying5 Tryd.underlying9 (fun j hj => by
    obtain rfl : j = 0 := by simpa using hj
    have e : ((UInt8.ofNat x.toNat).toNat : Int) = x := by rw [UInt8.toNat_ofNat']; omega
    have ha : a.add 0 = a := by simp [Addr.add]
    rw [ha, hc, List.getElem_cons_zero, e])
  exact this
theorem one_byte_new (w : World) (x : Int) (h0 : 0 ≤ x) (h1 : x < 256) :
    (convert 22 9 (.slice (some ⟨w.heap.size, 0, none⟩) 1 1)).run Tryd.prog (w.alloc (.cells #[.int .u8 x] 5)) = .ok (str [UInt8.ofNat x.toNat]) (w.alloc (.cells #[.int .u8 x] 5)) :=
  one_byte _ x h0 h1 _ (by simp [go_sem])
theorem itoa_one (n : Int) (h0 : 0 ≤ n) (h : n < 10) : Lib.itoa n = [UInt8.ofNat (48 + n).toNat] := by
  rw [Lib.itoa, if_neg (by omega), Lib.decDigits_one (by omega)]
  congr 2
  omega

theorem ba_append (a b : List UInt8) : ((⟨a.toArray⟩ : ByteArray) ++ (⟨b.toArray⟩ : ByteArray)) = ⟨(a ++ b).toArray⟩ := by
  apply ByteArray.ext
  simp [ByteArray.data_append]
theorem ret_str {a b : ByteArray} (h : a = b) : Ending.returned (.string a) = .returned (.string b) := by rw [h]
theorem below_of {C B : Nat} {w W w1 : World} (hb : Below B W w1) (h : Below C w W) (hC : C ≤ B) : Below C w w1 := h.trans (hb.mono hC)
theorem bcell {B : Nat} {W w1 : World} (hb : Below B W w1) : (∀ b o, b < B → w1.cell? ⟨b, o, none⟩ = W.cell? ⟨b, o, none⟩) ∧ (∀ b o, b < B → w1.frozen? ⟨b, o, none⟩ = W.frozen? ⟨b, o, none⟩) :=
  ⟨fun b o h => hb.cell (p := ⟨b, o, none⟩) h, fun b o h => hb.frozen (p := ⟨b, o, none⟩) h⟩

theorem quo10 (n : Int) (h0 : 0 ≤ n) (hM : n ≤ 1099511627775) : IntKind.i64.wrap (n.tdiv 10) = n / 10 := by
  rw [Int.tdiv_eq_ediv_of_nonneg h0]
  simp [IntKind.wrap, IntKind.bits, IntKind.signed]
  omega
theorem rem10 (n : Int) (h0 : 0 ≤ n) : IntKind.u8.wrap (IntKind.i64.wrap (48 + n.tmod 10)) = 48 + n % 10 := by
  rw [Int.tmod_eq_emod_of_nonneg h0]
  have e : IntKind.i64.wrap (48 + n % 10) = 48 + n % 10 := by simp [IntKind.wrap, IntKind.bits, IntKind.signed]; omega
  rw [e]
  simp [IntKind.wrap, IntKind.bits, IntKind.signed]
  omega
theorem itoa_step (n : Int) (h : 10 ≤ n) : Lib.itoa n = Lib.itoa (n / 10) ++ [UInt8.ofNat (48 + n % 10).toNat] := by
  rw [Lib.itoa, if_neg (by omega), Lib.itoa, if_neg (by omega), dec_big _ (by omega)]
  rw [show (n / 10).toNat = n.toNat / 10 by omega, show (48 + n % 10).toNat = 48 + n.toNat % 10 by omega]

theorem itoa_minus (n : Int) (h : n < 0) : Lib.itoa n = [45] ++ Lib.itoa (-n) := by
  rw [Lib.itoa, if_pos h, Lib.itoa, if_neg (by omega), show n.natAbs = (-n).toNat by omega]
  rfl
theorem numText_len (n : Int) : (numText n).length ≤ 14 := by
  unfold numText
  split
  · exact (itoa_len n ‹_›).2
  · simp

set_option maxRecDepth 100000 in
set_option maxHeartbeats 400000 in
/-- impl.NumText -/
theorem numText_impl (n : Int) (w : World) (hT : Tab w) :
    Calls Tryd.prog 8 #[.int .i64 n] w fun e w' => e = .returned (str (numText n)) ∧ Below w.heap.size w w' := by
  cases hn : numB n
  · have HN : Hid (numB n = _) := hn
    clear hn
    go_enter Tryd.func8, Tryd.ntmps8
    go_wp2_with (go_at_call 18; refine (num_impl _ _).mono ?_; rw [HN.out]; rintro e w' ⟨rfl, hw⟩; subst w')
    go_ret
    exact ⟨ret_str (by rw [numText, HN.out]; rfl), Below.refl _ _⟩
  · have hb := (numB_iff n).1 hn
    have ht : numText n = Lib.itoa n := by rw [numText, if_pos hn]
    rw [ht]
    have HN : Hid (numB n = _) := hn
    have HT : Hid (Tab w) := hT
    clear hn ht hT
    go_enter Tryd.func8, Tryd.ntmps8
    go_wp2_with fail
    refine (num_impl _ _).mono ?_
    rw [HN.out]
    rintro e w' ⟨rfl, hw⟩
    subst w'
    go_wp2_with fail
    refine (itoa_any n _ (by omega) (by omega) HT.out).mono ?_
    rintro e w1 ⟨rfl, hb⟩
    go_wp2
    go_ret
    exact ⟨rfl, hb⟩
end Go.Proofs.YtihilcffmdjhhafDoor
