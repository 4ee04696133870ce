/- The contracts of the inner values' methods that make values, and of the short texts. -/
import Derived.Test.YtmgoplamocgfladDoorTextNum
import Derived.Test.YtmgoplamocgfladDoorWithin
namespace Go.Proofs.YtmgoplamocgfladDoor
open Go.ChangeShapes Go.WideShapes Go.ChangeAt Go.RowKit

abbrev iNull : Value := .iface 56 (.agg #[])
abbrev iBool (b : Bool) : Value := .iface 57 (.bool b)
abbrev iInt (n : Int) : Value := .iface 58 (.int .i64 n)
abbrev iText (s : ByteArray) : Value := .iface 59 (.string s)
abbrev noS : ByteArray := ⟨#[]⟩
abbrev tTrue : ByteArray := ⟨#[116, 114, 117, 101]⟩
abbrev tFalse : ByteArray := ⟨#[102, 97, 108, 115, 101]⟩
/-- A bool's number, its text. -/
def bN (b : Bool) : Int := if b then 1 else 0
def bS (b : Bool) : ByteArray := if b then tTrue else tFalse

theorem val_null (w : World) : Calls Tryd.prog 89 #[.agg #[]] w fun e w' => e = .returned (V 0 0 noS) ∧ Below w.heap.size w w' := by
  go_enter Tryd.func89, Tryd.ntmps89
  go_wp2
  exact bodyPost_ret (v := V 0 0 noS) (by simp [results, Tryd.results89, go_sem]) rfl ⟨rfl, by repeat (first | exact Below.refl _ _ | (refine Below.alloc ?_ (by first | (simp; done) | (simp; omega) | omega) _))⟩
theorem val_bool (b : Bool) (w : World) : Calls Tryd.prog 41 #[.bool b] w fun e w' => e = .returned (V 1 (bN b) noS) ∧ Below w.heap.size w w' := by
  cases b
  all_goals
    go_enter Tryd.func41, Tryd.ntmps41
    go_wp2
    refine bodyPost_ret (v := V 1 (bN _) noS) (by simp [results, Tryd.results41, go_sem, bN]) rfl ⟨rfl, by repeat (first | exact Below.refl _ _ | (refine Below.alloc ?_ (by first | (simp; done) | (simp; omega) | omega) _))⟩
theorem val_int (n : Int) (w : World) : Calls Tryd.prog 92 #[.int .i64 n] w fun e w' => e = .returned (V 2 n noS) ∧ Below w.heap.size w w' := by
  go_enter Tryd.func92, Tryd.ntmps92
  go_wp2
  exact bodyPost_ret (v := V 2 n noS) (by simp [results, Tryd.results92, go_sem]) rfl ⟨rfl, by repeat (first | exact Below.refl _ _ | (refine Below.alloc ?_ (by first | (simp; done) | (simp; omega) | omega) _))⟩
theorem val_text (s : ByteArray) (w : World) : Calls Tryd.prog 94 #[.string s] w fun e w' => e = .returned (V 3 0 s) ∧ Below w.heap.size w w' := by
  go_enter Tryd.func94, Tryd.ntmps94
  go_wp2
  exact bodyPost_ret (v := V 3 0 s) (by simp [results, Tryd.results94, go_sem]) rfl ⟨rfl, by repeat (first | exact Below.refl _ _ | (refine Below.alloc ?_ (by first | (simp; done) | (simp; omega) | omega) _))⟩

theorem text_bool (b : Bool) (w : World) : Calls Tryd.prog 90 #[.bool b] w fun e w' => e = .returned (.string (bS b)) ∧ w' = w := by
  cases b
  all_goals
    go_enter Tryd.func90, Tryd.ntmps90
    go_wp2
    go_ret
    exact ⟨rfl, rfl⟩
theorem text_int (n : Int) (w : World) (hT : Tab w) : Calls Tryd.prog 91 #[.int .i64 n] w fun e w' => e = .returned (str (numText n)) ∧ Below w.heap.size w w' := by
  have HT : Hid (Tab w) := hT
  clear hT
  go_enter Tryd.func91, Tryd.ntmps91
  go_wp2_with fail
  refine (numText_impl n _ HT.out).mono ?_
  rintro e w1 ⟨rfl, hb1⟩
  go_wp2
  go_ret
  exact ⟨rfl, hb1⟩
theorem bool_spec (n : Int) (w : World) : Calls Tryd.prog 23 #[.int .i64 n] w fun e w' => e = .returned (.string (bS (n == 1))) ∧ w' = w := by
  cases h : n == 1
  all_goals
    go_enter Tryd.func23, Tryd.ntmps23
    go_wp2
    go_ret
    exact ⟨rfl, rfl⟩

/-! What a type switch finds. -/
theorem ta_null_null (w : World) : (Instr.typeAssert (iNull) 40 56 true).run Tryd.prog w = .ok (.tuple #[.agg #[], .bool true]) w := by kernel_rfl
theorem ta_null_bool (w : World) : (Instr.typeAssert (iNull) 40 57 true).run Tryd.prog w = .ok (.tuple #[.bool false, .bool false]) w := by kernel_rfl
theorem ta_null_int (w : World) : (Instr.typeAssert (iNull) 40 58 true).run Tryd.prog w = .ok (.tuple #[.int .i64 0, .bool false]) w := by kernel_rfl
theorem ta_null_text (w : World) : (Instr.typeAssert (iNull) 40 59 true).run Tryd.prog w = .ok (.tuple #[.string noS, .bool false]) w := by kernel_rfl
theorem ta_bool_null (b : Bool) (w : World) : (Instr.typeAssert (iBool b) 40 56 true).run Tryd.prog w = .ok (.tuple #[.agg #[], .bool false]) w := by kernel_rfl
theorem ta_bool_bool (b : Bool) (w : World) : (Instr.typeAssert (iBool b) 40 57 true).run Tryd.prog w = .ok (.tuple #[.bool b, .bool true]) w := by kernel_rfl
theorem ta_bool_int (b : Bool) (w : World) : (Instr.typeAssert (iBool b) 40 58 true).run Tryd.prog w = .ok (.tuple #[.int .i64 0, .bool false]) w := by kernel_rfl
theorem ta_bool_text (b : Bool) (w : World) : (Instr.typeAssert (iBool b) 40 59 true).run Tryd.prog w = .ok (.tuple #[.string noS, .bool false]) w := by kernel_rfl
theorem ta_int_null (n : Int) (w : World) : (Instr.typeAssert (iInt n) 40 56 true).run Tryd.prog w = .ok (.tuple #[.agg #[], .bool false]) w := by kernel_rfl
theorem ta_int_bool (n : Int) (w : World) : (Instr.typeAssert (iInt n) 40 57 true).run Tryd.prog w = .ok (.tuple #[.bool false, .bool false]) w := by kernel_rfl
theorem ta_int_int (n : Int) (w : World) : (Instr.typeAssert (iInt n) 40 58 true).run Tryd.prog w = .ok (.tuple #[.int .i64 n, .bool true]) w := by kernel_rfl
theorem ta_int_text (n : Int) (w : World) : (Instr.typeAssert (iInt n) 40 59 true).run Tryd.prog w = .ok (.tuple #[.string noS, .bool false]) w := by kernel_rfl
theorem ta_text_null (s : ByteArray) (w : World) : (Instr.typeAssert (iText s) 40 56 true).run Tryd.prog w = .ok (.tuple #[.agg #[], .bool false]) w := by kernel_rfl
theorem ta_text_bool (s : ByteArray) (w : World) : (Instr.typeAssert (iText s) 40 57 true).run Tryd.prog w = .ok (.tuple #[.bool false, .bool false]) w := by kernel_rfl
theorem ta_text_int (s : ByteArray) (w : World) : (Instr.typeAssert (iText s) 40 58 true).run Tryd.prog w = .ok (.tuple #[.int .i64 0, .bool false]) w := by kernel_rfl
theorem ta_text_text (s : ByteArray) (w : World) : (Instr.typeAssert (iText s) 40 59 true).run Tryd.prog w = .ok (.tuple #[.string s, .bool true]) w := by kernel_rfl

/-! Which method an inner value has. -/
theorem mv_null (w : World) : (method 226 56 (.agg #[]) "loop.example/g00462/impl.val").run Tryd.prog w = .ok (89, .agg #[]) w := by kernel_rfl
theorem mt_null (w : World) : (method 226 56 (.agg #[]) "loop.example/g00462/impl.text").run Tryd.prog w = .ok (88, .agg #[]) w := by kernel_rfl
theorem mv_bool (b : Bool) (w : World) : (method 226 57 (.bool b) "loop.example/g00462/impl.val").run Tryd.prog w = .ok (41, .bool b) w := by kernel_rfl
theorem mt_bool (b : Bool) (w : World) : (method 226 57 (.bool b) "loop.example/g00462/impl.text").run Tryd.prog w = .ok (90, .bool b) w := by kernel_rfl
theorem mv_int (n : Int) (w : World) : (method 226 58 (.int .i64 n) "loop.example/g00462/impl.val").run Tryd.prog w = .ok (92, .int .i64 n) w := by kernel_rfl
theorem mt_int (n : Int) (w : World) : (method 226 58 (.int .i64 n) "loop.example/g00462/impl.text").run Tryd.prog w = .ok (91, .int .i64 n) w := by kernel_rfl
theorem mv_text (s : ByteArray) (w : World) : (method 226 59 (.string s) "loop.example/g00462/impl.val").run Tryd.prog w = .ok (94, .string s) w := by kernel_rfl
theorem mt_text (s : ByteArray) (w : World) : (method 226 59 (.string s) "loop.example/g00462/impl.text").run Tryd.prog w = .ok (93, .string s) w := by kernel_rfl

theorem field1 (ty n : Int) (s : ByteArray) (w : World) : (Instr.field 24 (V ty n s) 1).run Tryd.prog w = .ok (.int .i64 n) w := by kernel_rfl
theorem below0 (w : World) : Below w.heap.size w w := Below.refl _ _
theorem ret_ib {a b : Bool} {c d : Bool} (h : a = b) (k : c = d) : Ending.returned (.tuple #[iBool a, .bool c]) = .returned (.tuple #[iBool b, .bool d]) := by rw [h, k]
def isTrue (s : ByteArray) : Bool := s.toList == tTrue.toList
def isFalse (s : ByteArray) : Bool := s.toList == tFalse.toList

set_option maxRecDepth 100000 in
set_option maxHeartbeats 400000 in
theorem castBool_null (w : World) : Calls Tryd.prog 31 #[iNull] w fun e w' => e = .returned (.tuple #[iNull, .bool true]) ∧ Below w.heap.size w w' := by
  have f0 := ta_null_null
  have f1 := ta_null_bool
  have f2 := ta_null_int
  have f3 := ta_null_text
  go_enter Tryd.func31, Tryd.ntmps31
  go_wp2
  go_ret2
  exact ⟨rfl, below0 _⟩

set_option maxRecDepth 100000 in
set_option maxHeartbeats 400000 in
theorem castBool_bool (b : Bool) (w : World) : Calls Tryd.prog 31 #[iBool b] w fun e w' => e = .returned (.tuple #[iBool b, .bool true]) ∧ Below w.heap.size w w' := by
  have f0 := ta_bool_null b
  have f1 := ta_bool_bool b
  have f2 := ta_bool_int b
  have f3 := ta_bool_text b
  go_enter Tryd.func31, Tryd.ntmps31
  go_wp2
  go_ret2
  exact ⟨rfl, below0 _⟩

set_option maxRecDepth 100000 in
set_option maxHeartbeats 400000 in
theorem castInt_null (w : World) : Calls Tryd.prog 32 #[iNull] w fun e w' => e = .returned (.tuple #[iNull, .bool true]) ∧ Below w.heap.size w w' := by
  have f0 := ta_null_null
  have f1 := ta_null_bool
  have f2 := ta_null_int
  have f3 := ta_null_text
  go_enter Tryd.func32, Tryd.ntmps32
  go_wp2
  go_ret2
  exact ⟨rfl, below0 _⟩

set_option maxRecDepth 100000 in
set_option maxHeartbeats 400000 in
theorem castInt_int (n : Int) (w : World) : Calls Tryd.prog 32 #[iInt n] w fun e w' => e = .returned (.tuple #[iInt n, .bool true]) ∧ Below w.heap.size w w' := by
  have f0 := ta_int_null n
  have f1 := ta_int_bool n
  have f2 := ta_int_int n
  have f3 := ta_int_text n
  go_enter Tryd.func32, Tryd.ntmps32
  go_wp2
  go_ret2
  exact ⟨rfl, below0 _⟩

set_option maxRecDepth 100000 in
set_option maxHeartbeats 400000 in
theorem castText_null (w : World) : Calls Tryd.prog 33 #[iNull] w fun e w' => e = .returned (.tuple #[iNull, .bool true]) ∧ Below w.heap.size w w' := by
  have f0 := ta_null_null
  have f1 := ta_null_bool
  have f2 := ta_null_int
  have f3 := ta_null_text
  go_enter Tryd.func33, Tryd.ntmps33
  go_wp2
  go_ret2
  exact ⟨rfl, below0 _⟩

set_option maxRecDepth 100000 in
set_option maxHeartbeats 400000 in
theorem castText_text (s : ByteArray) (w : World) : Calls Tryd.prog 33 #[iText s] w fun e w' => e = .returned (.tuple #[iText s, .bool true]) ∧ Below w.heap.size w w' := by
  have f0 := ta_text_null s
  have f1 := ta_text_bool s
  have f2 := ta_text_int s
  have f3 := ta_text_text s
  go_enter Tryd.func33, Tryd.ntmps33
  go_wp2
  go_ret2
  exact ⟨rfl, below0 _⟩

set_option maxRecDepth 100000 in
set_option maxHeartbeats 400000 in
theorem castBool_int (n : Int) (w : World) : Calls Tryd.prog 31 #[iInt n] w fun e w' => e = .returned (.tuple #[iBool (n == 1), .bool (n == 0 || n == 1)]) ∧ Below w.heap.size w w' := by
  have f0 := ta_int_null n
  have f1 := ta_int_bool n
  have f2 := ta_int_int n
  have f3 := ta_int_text n
  cases h0 : n == 0 <;> cases h1 : n == 1
  all_goals
    go_enter Tryd.func31, Tryd.ntmps31
    go_wp2
    go_ret2
    exact ⟨rfl, below0 _⟩

set_option maxRecDepth 100000 in
set_option maxHeartbeats 400000 in
theorem castBool_text (s : ByteArray) (w : World) : Calls Tryd.prog 31 #[iText s] w fun e w' => e = .returned (.tuple #[iBool (isTrue s), .bool (isTrue s || isFalse s)]) ∧ Below w.heap.size w w' := by
  have f0 := ta_text_null s
  have f1 := ta_text_bool s
  have f2 := ta_text_int s
  have f3 := ta_text_text s
  cases h0 : isTrue s <;> cases h1 : isFalse s
  all_goals
    have g0 : (s.toList == tTrue.toList) = _ := h0
    have g1 : (s.toList == tFalse.toList) = _ := h1
    rw [ByteArray.toList_eq tTrue] at g0
    rw [ByteArray.toList_eq tFalse] at g1
    clear h0 h1
    go_enter Tryd.func31, Tryd.ntmps31
    go_wp2
    go_ret2
    exact ⟨rfl, below0 _⟩

set_option maxRecDepth 100000 in
set_option maxHeartbeats 400000 in
theorem castInt_bool (b : Bool) (w : World) : Calls Tryd.prog 32 #[iBool b] w fun e w' => e = .returned (.tuple #[iInt (bN b), .bool true]) ∧ Below w.heap.size w w' := by
  have f0 := ta_bool_null b
  have f1 := ta_bool_bool b
  have f2 := ta_bool_int b
  have f3 := ta_bool_text b
  have f5 := field1 1 (bN b) noS
  go_enter Tryd.func32, Tryd.ntmps32
  go_wp2_with (go_at_call 41; refine (val_bool _ _).mono ?_; rintro e w1 ⟨rfl, hb⟩)
  go_ret2
  exact ⟨rfl, hb⟩

set_option maxRecDepth 100000 in
set_option maxHeartbeats 400000 in
theorem castInt_text (s : ByteArray) (hs : s.size ≤ 1048576) (w : World) (hT : Tab w) (hE : Errs w) : Calls Tryd.prog 32 #[iText s] w fun e w' => e = .returned (.tuple #[iInt (tnV s), .bool (tnB s)]) ∧ Below w.heap.size w w' := by
  have f0 := ta_text_null s
  have f1 := ta_text_bool s
  have f2 := ta_text_int s
  have f3 := ta_text_text s
  have HT : Hid (Tab w) := hT
  have HE : Hid (Errs w) := hE
  clear hT hE
  go_enter Tryd.func32, Tryd.ntmps32
  go_wp2_with fail
  refine (textNum_impl s hs _ HT.out HE.out).mono ?_
  rintro e w1 ⟨rfl, hb⟩
  go_wp2
  go_ret2
  exact ⟨rfl, hb⟩

set_option maxRecDepth 100000 in
set_option maxHeartbeats 400000 in
theorem castText_bool (b : Bool) (w : World) : Calls Tryd.prog 33 #[iBool b] w fun e w' => e = .returned (.tuple #[iText (bS b), .bool true]) ∧ Below w.heap.size w w' := by
  have f0 := ta_bool_null b
  have f1 := ta_bool_bool b
  have f2 := ta_bool_int b
  have f3 := ta_bool_text b
  have f5 := mt_bool b
  go_enter Tryd.func33, Tryd.ntmps33
  go_wp2_with (go_at_call 90; refine (text_bool _ _).mono ?_; rintro e w' ⟨rfl, hw⟩; subst w')
  go_ret2
  exact ⟨rfl, below0 _⟩

set_option maxRecDepth 100000 in
set_option maxHeartbeats 400000 in
theorem castText_int (n : Int) (w : World) (hT : Tab w) : Calls Tryd.prog 33 #[iInt n] w fun e w' => e = .returned (.tuple #[iText ⟨(numText n).toArray⟩, .bool true]) ∧ Below w.heap.size w w' := by
  have f0 := ta_int_null n
  have f1 := ta_int_bool n
  have f2 := ta_int_int n
  have f3 := ta_int_text n
  have f5 := mt_int n
  have HT : Hid (Tab w) := hT
  clear hT
  have HS : Hid (∀ w : World, Tab w → Calls Tryd.prog 91 #[.int .i64 n] w fun e w' => e = .returned (str (numText n)) ∧ Below w.heap.size w w') := fun w h => text_int n w h
  generalize numText n = L at HS
  go_enter Tryd.func33, Tryd.ntmps33
  go_wp2_with (go_at_call 91; refine (HS.out _ HT.out).mono ?_; rintro e w1 ⟨rfl, hb⟩)
  go_ret2
  exact ⟨rfl, hb⟩
end Go.Proofs.YtmgoplamocgfladDoor
