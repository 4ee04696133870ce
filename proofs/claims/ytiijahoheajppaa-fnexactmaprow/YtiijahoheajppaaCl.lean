/- A column: what it holds, the laws' copy, size and look. -/
import Derived.Test.YtiijahoheajppaaToVal
import Derived.Test.YtiijahoheajppaaWords
namespace Go.Proofs.Ytiijahoheajppaa
open Go.ChangeShapes Go.WideShapes Go.ChangeAt Go.RowKit

/-- A column's fields. -/
structure Cl where
  name : ByteArray
  ty : Int
  nt : Bool
  has : Bool
  dt : Int
  dn : Int
  ds : ByteArray
abbrev Cl.cells (c : Cl) : Array Value := #[.string c.name, .int .i64 c.ty, .bool c.nt, .bool c.has, .int .i64 c.dt, .int .i64 c.dn, .string c.ds]
abbrev Cl.v (c : Cl) : Value := .agg c.cells
def Cl.sz (c : Cl) : Nat := c.name.size + c.ds.size
/-- What is left behind something of a size; -1 where there was too little. -/
def rest (l : Int) (n : Nat) : Int := if l < n then -1 else l - n
theorem rest_no {l : Int} {n : Nat} (h : l < n) : rest l n = -1 := if_pos h
theorem rest_yes {l : Int} {n : Nat} (h : ¬ l < n) : rest l n = l - n := if_neg h
theorem ret_i {a b : Int} (h : a = b) : Ending.returned (.int .i64 a) = .returned (.int .i64 b) := by rw [h]

set_option maxRecDepth 100000 in
set_option maxHeartbeats 1000000 in
/-- laws.szCol -/
theorem szCol_any (c : Cl) (l : Int) (w : World) (hn : c.name.size ≤ maxLen) (hs : c.ds.size ≤ maxLen) (h0 : 0 ≤ l) (h1 : l ≤ 1048576) :
    Calls Try.prog 55 #[c.v, .int .i64 l] w fun e w' => e = .returned (.int .i64 (rest l c.sz)) ∧ Below w.heap.size w w' := by
  unfold maxLen at hn
  have hsz : (c.sz : Int) = c.name.size + c.ds.size := by simp [Cl.sz]
  by_cases ha : l < c.name.size
  · have HR : Hid (rest l c.sz = -1) := rest_no (by omega)
    clear hsz
    go_enter Try.func55, Try.ntmps55
    go_wp2
    go_ret
    exact ⟨ret_i HR.out.symm, by repeat (first | exact Below.refl _ _ | refine Below.drew ?_ | refine below_draws _ ?_ | (refine Below.alloc ?_ (by first | (simp; done) | (simp; omega) | omega) _))⟩
  by_cases hb : l - c.name.size < c.ds.size
  · have HR : Hid (rest l c.sz = -1) := rest_no (by omega)
    clear hsz
    go_enter Try.func55, Try.ntmps55
    go_wp2_with (go_at_call 43; refine (sz_no _ _ _ _ _ hs (by omega) hb).mono ?_; rintro e w' ⟨rfl, hw⟩; subst w')
    go_ret
    exact ⟨ret_i HR.out.symm, by repeat (first | exact Below.refl _ _ | refine Below.drew ?_ | refine below_draws _ ?_ | (refine Below.alloc ?_ (by first | (simp; done) | (simp; omega) | omega) _))⟩
  · have HR : Hid (rest l c.sz = l - c.name.size - c.ds.size) := (rest_yes (by omega)).trans (by omega)
    clear hsz
    go_enter Try.func55, Try.ntmps55
    go_wp2_with (go_at_call 43; refine (sz_yes _ _ _ _ _ (by omega) (by omega)).mono ?_; rintro e w' ⟨rfl, hw⟩; subst w')
    go_ret
    exact ⟨ret_i HR.out.symm, by repeat (first | exact Below.refl _ _ | refine Below.drew ?_ | refine below_draws _ ?_ | (refine Below.alloc ?_ (by first | (simp; done) | (simp; omega) | omega) _))⟩

set_option maxRecDepth 100000 in
set_option maxHeartbeats 1000000 in
/-- laws.toCol -/
theorem toCol_any (c : Cl) (w : World) : Calls Try.prog 58 #[c.v] w fun e w' => e = .returned c.v ∧ Below w.heap.size w w' := by
  go_enter Try.func58, Try.ntmps58
  go_wp2_with fail
  refine (toVal_any _ _ _ _).mono ?_
  rintro e w' ⟨rfl, hw⟩
  subst w'
  go_wp2
  exact bodyPost_ret (v := c.v) (by simp [results, Try.results58, go_sem]) rfl ⟨rfl, by repeat (first | exact Below.refl _ _ | refine Below.drew ?_ | refine below_draws _ ?_ | (refine Below.alloc ?_ (by first | (simp; done) | (simp; omega) | omega) _))⟩
end Go.Proofs.Ytiijahoheajppaa
