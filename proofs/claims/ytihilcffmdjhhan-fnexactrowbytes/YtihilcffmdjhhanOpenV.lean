/- Values and rows among the arguments, opened. -/
import Derived.Test.YtihilcffmdjhhanOpenC
import Derived.Test.YtihilcffmdjhhanVs
namespace Go.Proofs.Ytihilcffmdjhhan
open Go.ChangeShapes Go.WideShapes Go.ChangeAt Go.RowKit
section
variable {H : Type} {enc : TypeId × Value → H} {w : World} {base : Nat} {spare : Nat → Bool} {held : Bool}
end
end Go.Proofs.Ytihilcffmdjhhan
