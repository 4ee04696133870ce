/- A region that draws its order, in worlds that only grow: one walk serves every order. -/
import Derived.Test.YtiijahoheajppabCh
import Derived.Deep.QuietTactic
import Derived.BigQuiet
namespace Go.Proofs.Ytiijahoheajppab
open Go.ChangeShapes Go.WideShapes Go.ChangeAt Go.RowKit

/-- A world grown out of another, nothing that was there turned. -/
def Grows (u w : World) : Prop := Below u.heap.size u w
theorem Grows.drawn (u : World) : Grows u { u with drawn := u.drawn + 1 } := ⟨rfl, rfl, rfl, Nat.le_refl _, fun _ _ => rfl⟩
theorem region_grown {P : Program} {id : Nat} {Q : Exit → Act → World → Prop} {a : Act} {u : World} {l : List Oper} (hm : P.follows .mixedOrders = true) (hB : Region.lexB .any l.toArray = true)
    (h : wpQuiet P l.toArray (Grows u) (fun a' => ∀ w', Grows u w' → Q .normal a' w') l a) : (Code.region id l.toArray true).wp P Q a u :=
  wp_region_quiet (C := Grows u) hm hB (Grows.drawn u) (by simpa using h)
/-- A callee that returns a value and only grows the world. -/
theorem Grows.call {P : Program} {f : FuncId} {args : Array Value} {u w : World} {v : Value} (hw : Grows u w) (h : Calls P f args w fun e w' => e = .returned v ∧ Below w.heap.size w w') : Calls P f args w fun e w' => e = .returned v ∧ Grows u w' :=
  h.mono fun _ _ ⟨h1, h2⟩ => ⟨h1, ch_trans hw h2⟩
theorem Grows.cell {u w : World} {p : Addr} {v : Value} (hw : Grows u w) (h : u.cell? p = some v) : w.cell? p = some v := cell_on h hw
end Go.Proofs.Ytiijahoheajppab
