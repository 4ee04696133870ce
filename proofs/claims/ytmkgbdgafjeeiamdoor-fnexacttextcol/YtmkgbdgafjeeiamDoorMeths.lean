/- The contracts of the inner values' methods that make values, and of the short texts. -/
import Derived.Test.YtmkgbdgafjeeiamDoorTextNum
import Derived.Test.YtmkgbdgafjeeiamDoorWithin
namespace Go.Proofs.YtmkgbdgafjeeiamDoor
open Go.ChangeShapes Go.WideShapes Go.ChangeAt Go.RowKit

abbrev iNull : Value := .iface 74 (.agg #[])
abbrev iBool (b : Bool) : Value := .iface 75 (.bool b)
abbrev iInt (n : Int) : Value := .iface 76 (.int .i64 n)
abbrev iText (s : ByteArray) : Value := .iface 77 (.string s)
abbrev noS : ByteArray := ⟨#[]⟩
abbrev tTrue : ByteArray := ⟨#[116, 114, 117, 101]⟩
abbrev tFalse : ByteArray := ⟨#[102, 97, 108, 115, 101]⟩
/-- A bool's number, its text. -/
def bN (b : Bool) : Int := if b then 1 else 0
def bS (b : Bool) : ByteArray := if b then tTrue else tFalse

theorem val_null (w : World) : Calls Tryd.prog 103 #[.agg #[]] w fun e w' => e = .returned (V 0 0 noS) ∧ Below w.heap.size w w' := by
  go_enter Tryd.func103, Tryd.ntmps103
  go_wp2
  exact bodyPost_ret (v := V 0 0 noS) (by simp [results, Tryd.results103, go_sem]) rfl ⟨rfl, by repeat (first | exact Below.refl _ _ | (refine Below.alloc ?_ (by first | (simp; done) | (simp; omega) | omega) _))⟩
theorem val_bool (b : Bool) (w : World) : Calls Tryd.prog 105 #[.bool b] w fun e w' => e = .returned (V 1 (bN b) noS) ∧ Below w.heap.size w w' := by
  cases b
  all_goals
    go_enter Tryd.func105, Tryd.ntmps105
    go_wp2
    refine bodyPost_ret (v := V 1 (bN _) noS) (by simp [results, Tryd.results105, go_sem, bN]) rfl ⟨rfl, by repeat (first | exact Below.refl _ _ | (refine Below.alloc ?_ (by first | (simp; done) | (simp; omega) | omega) _))⟩
theorem val_int (n : Int) (w : World) : Calls Tryd.prog 107 #[.int .i64 n] w fun e w' => e = .returned (V 2 n noS) ∧ Below w.heap.size w w' := by
  go_enter Tryd.func107, Tryd.ntmps107
  go_wp2
  exact bodyPost_ret (v := V 2 n noS) (by simp [results, Tryd.results107, go_sem]) rfl ⟨rfl, by repeat (first | exact Below.refl _ _ | (refine Below.alloc ?_ (by first | (simp; done) | (simp; omega) | omega) _))⟩
theorem val_text (s : ByteArray) (w : World) : Calls Tryd.prog 109 #[.string s] w fun e w' => e = .returned (V 3 0 s) ∧ Below w.heap.size w w' := by
  go_enter Tryd.func109, Tryd.ntmps109
  go_wp2
  exact bodyPost_ret (v := V 3 0 s) (by simp [results, Tryd.results109, go_sem]) rfl ⟨rfl, by repeat (first | exact Below.refl _ _ | (refine Below.alloc ?_ (by first | (simp; done) | (simp; omega) | omega) _))⟩

theorem text_bool (b : Bool) (w : World) : Calls Tryd.prog 104 #[.bool b] w fun e w' => e = .returned (.string (bS b)) ∧ w' = w := by
  cases b
  all_goals
    go_enter Tryd.func104, Tryd.ntmps104
    go_wp2
    go_ret
    exact ⟨rfl, rfl⟩
theorem text_int (n : Int) (w : World) (hT : Tab w) : Calls Tryd.prog 106 #[.int .i64 n] w fun e w' => e = .returned (str (numText n)) ∧ Below w.heap.size w w' := by
  have HT : Hid (Tab w) := hT
  clear hT
  go_enter Tryd.func106, Tryd.ntmps106
  go_wp2_with fail
  refine (numText_impl n _ HT.out).mono ?_
  rintro e w1 ⟨rfl, hb1⟩
  go_wp2
  go_ret
  exact ⟨rfl, hb1⟩
theorem bool_spec (n : Int) (w : World) : Calls Tryd.prog 42 #[.int .i64 n] w fun e w' => e = .returned (.string (bS (n == 1))) ∧ w' = w := by
  cases h : n == 1
  all_goals
    go_enter Tryd.func42, Tryd.ntmps42
    go_wp2
    go_ret
    exact ⟨rfl, rfl⟩

/-! What a type switch finds. -/
theorem ta_null_null (w : World) : (Instr.typeAssert (iNull) 64 74 true).run Tryd.prog w = .ok (.tuple #[.agg #[], .bool true]) w := by kernel_rfl
theorem ta_null_bool (w : World) : (Instr.typeAssert (iNull) 64 75 true).run Tryd.prog w = .ok (.tuple #[.bool false, .bool false]) w := by kernel_rfl
theorem ta_null_int (w : World) : (Instr.typeAssert (iNull) 64 76 true).run Tryd.prog w = .ok (.tuple #[.int .i64 0, .bool false]) w := by kernel_rfl
theorem ta_null_text (w : World) : (Instr.typeAssert (iNull) 64 77 true).run Tryd.prog w = .ok (.tuple #[.string noS, .bool false]) w := by kernel_rfl
theorem ta_bool_null (b : Bool) (w : World) : (Instr.typeAssert (iBool b) 64 74 true).run Tryd.prog w = .ok (.tuple #[.agg #[], .bool false]) w := by kernel_rfl
theorem ta_bool_bool (b : Bool) (w : World) : (Instr.typeAssert (iBool b) 64 75 true).run Tryd.prog w = .ok (.tuple #[.bool b, .bool true]) w := by kernel_rfl
theorem ta_bool_int (b : Bool) (w : World) : (Instr.typeAssert (iBool b) 64 76 true).run Tryd.prog w = .ok (.tuple #[.int .i64 0, .bool false]) w := by kernel_rfl
theorem ta_bool_text (b : Bool) (w : World) : (Instr.typeAssert (iBool b) 64 77 true).run Tryd.prog w = .ok (.tuple #[.string noS, .bool false]) w := by kernel_rfl
theorem ta_int_null (n : Int) (w : World) : (Instr.typeAssert (iInt n) 64 74 true).run Tryd.prog w = .ok (.tuple #[.agg #[], .bool false]) w := by kernel_rfl
theorem ta_int_bool (n : Int) (w : World) : (Instr.typeAssert (iInt n) 64 75 true).run Tryd.prog w = .ok (.tuple #[.bool false, .bool false]) w := by kernel_rfl
theorem ta_int_int (n : Int) (w : World) : (Instr.typeAssert (iInt n) 64 76 true).run Tryd.prog w = .ok (.tuple #[.int .i64 n, .bool true]) w := by kernel_rfl
theorem ta_int_text (n : Int) (w : World) : (Instr.typeAssert (iInt n) 64 77 true).run Tryd.prog w = .ok (.tuple #[.string noS, .bool false]) w := by kernel_rfl
theorem ta_text_null (s : ByteArray) (w : World) : (Instr.typeAssert (iText s) 64 74 true).run Tryd.prog w = .ok (.tuple #[.agg #[], .bool false]) w := by kernel_rfl
theorem ta_text_bool (s : ByteArray) (w : World) : (Instr.typeAssert (iText s) 64 75 true).run Tryd.prog w = .ok (.tuple #[.bool false, .bool false]) w := by kernel_rfl
theorem ta_text_int (s : ByteArray) (w : World) : (Instr.typeAssert (iText s) 64 76 true).run Tryd.prog w = .ok (.tuple #[.int .i64 0, .bool false]) w := by kernel_rfl
theorem ta_text_text (s : ByteArray) (w : World) : (Instr.typeAssert (iText s) 64 77 true).run Tryd.prog w = .ok (.tuple #[.string s, .bool true]) w := by kernel_rfl

/-! Which method an inner value has. -/
theorem mv_null (w : World) : (method 240 74 (.agg #[]) "loop.example/g00462/impl.val").run Tryd.prog w = .ok (103, .agg #[]) w := by kernel_rfl
theorem mt_null (w : World) : (method 240 74 (.agg #[]) "loop.example/g00462/impl.text").run Tryd.prog w = .ok (102, .agg #[]) w := by kernel_rfl
theorem mv_bool (b : Bool) (w : World) : (method 240 75 (.bool b) "loop.example/g00462/impl.val").run Tryd.prog w = .ok (105, .bool b) w := by kernel_rfl
theorem mt_bool (b : Bool) (w : World) : (method 240 75 (.bool b) "loop.example/g00462/impl.text").run Tryd.prog w = .ok (104, .bool b) w := by kernel_rfl
theorem mv_int (n : Int) (w : World) : (method 240 76 (.int .i64 n) "loop.example/g00462/impl.val").run Tryd.prog w = .ok (107, .int .i64 n) w := by kernel_rfl
theorem mt_int (n : Int) (w : World) : (method 240 76 (.int .i64 n) "loop.example/g00462/impl.text").run Tryd.prog w = .ok (106, .int .i64 n) w := by kernel_rfl
theorem mv_text (s : ByteArray) (w : World) : (method 240 77 (.string s) "loop.example/g00462/impl.val").run Tryd.prog w = .ok (109, .string s) w := by kernel_rfl
theorem mt_text (s : ByteArray) (w : World) : (method 240 77 (.string s) "loop.example/g00462/impl.text").run Tryd.prog w = .ok (108, .string s) w := by kernel_rfl

theorem field1 (ty n : Int) (s : ByteArray) (w : World) : (Instr.field 23 (V ty n s) 1).run Tryd.prog w = .ok (.int .i64 n) w := by kernel_rfl
theorem below0 (w : World) : Below w.heap.size w w := Below.refl _ _
theorem ret_ib {a b : Bool} {c d : Bool} (h : a = b) (k : c = d) : Ending.returned (.tuple #[iBool a, .bool c]) = .returned (.tuple #[iBool b, .bool d]) := by rw [h, k]
def isTrue (s : ByteArray) : Bool := s.toList == tTrue.toList
def isFalse (s : ByteArray) : Bool := s.toList == tFalse.toList

end Go.Proofs.YtmkgbdgafjeeiamDoor
