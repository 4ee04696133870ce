/- Copies, whole blocks each: columns, texts, tables. -/
import Derived.Test.YtihilcffmdjhhafDoorRw
namespace Go.Proofs.YtihilcffmdjhhafDoor
open Go.ChangeShapes Go.WideShapes Go.ChangeAt Go.RowKit

theorem Fill.colsV {w : World} {B : Nat} {T : TypeId} {cs : List Cl} (h : Fill w B T 7 cs.length (cs.map Cl.cells)) (hn : cs.length ≤ maxLen) : ColsV w (.slice (some ⟨B, 0, none⟩) cs.length cs.length) cs := ⟨_, _, rfl, Nat.le_refl _, hn, h.row⟩
theorem Fill.strsV {w : World} {B : Nat} {T : TypeId} {ks : List ByteArray} (h : Fill w B T 1 ks.length (ks.map strX)) (hn : ks.length ≤ maxLen) : StrsV w (.slice (some ⟨B, 0, none⟩) ks.length ks.length) ks := ⟨_, _, rfl, Nat.le_refl _, hn, h.row⟩

end Go.Proofs.YtihilcffmdjhhafDoor
