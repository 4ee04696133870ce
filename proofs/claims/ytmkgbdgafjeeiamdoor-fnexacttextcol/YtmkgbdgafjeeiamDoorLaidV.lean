/- A start at which the library's tables of runes lie as they were laid. A start at which the library's variables that a column's reading meets lie as they were laid, and what the row's list gives the walk. -/
import Derived.Test.YtmkgbdgafjeeiamDoorAp
import Derived.Deep.DeepHandedRow
import Derived.Deep.DeepWitnessRowRef
import Derived.Lib.LaidTab
import Derived.Stop.LaidErr
import Derived.LaidLaws
import Derived.MakeChecks
import Derived.Test.YtmkgbdgafjeeiamDoorLaidW
import Derived.Test.YtmkgbdgafjeeiamDoorRc
import Derived.PinnedBridge
import Derived.Lib.LaidU8
namespace Go.Proofs.YtmkgbdgafjeeiamDoor
open Go.ChangeShapes Go.WideShapes Go.ChangeAt Go.RowKit

/-- Other cells in a block. -/
def laidAsU (cs : Array Value) : Obj → Obj
  | .cells _ t frozen => .cells cs t frozen
  | o => o
def tabAccept : Array Value := ((#[128, 191, 160, 191, 128, 159, 144, 191, 128, 143] ++ Array.replicate 22 0 : Array Nat)).map fun (n : Nat) => .int .u8 (n : Int)
def tabFirst : Array Value := ((Array.replicate 128 240 ++ Array.replicate 66 241 ++ Array.replicate 30 2 ++ #[19] ++ Array.replicate 12 3 ++ #[35, 3, 3, 52, 4, 4, 4, 68] ++ Array.replicate 11 241 : Array Nat)).map fun (n : Nat) => .int .u8 (n : Int)
/-- The variables as their initialisers lay them. -/
def layU (W : World) : World := { W with heap := (W.heap.modify 1 (laidAsU tabAccept)).modify 0 (laidAsU tabFirst) }
/-- A start: the program's settled world, the tables laid. -/
def startU (P : Program) (os : Os) : World := layU (World.holding P os ⟨#[], #[], []⟩)
theorem ownU : ownKnob Tryd.prog.godebug = none := by kernel_rfl
end Go.Proofs.YtmkgbdgafjeeiamDoor

namespace Go.Proofs.YtmkgbdgafjeeiamDoor
open Go.ChangeShapes Go.WideShapes Go.ChangeAt Go.RowKit

/-- A start: all of them laid. -/
def startV (P : Program) (os : Os) : World := layU (startOf P os)
theorem Env.wide {w w' : World} (h : Env w w.heap.size) (b : Below w.heap.size w w') : Env w' w'.heap.size := by
  have h' := h.on b
  exact ⟨h'.uni, h'.tab, h'.errs, Nat.lt_of_lt_of_le h.r1 b.size, Nat.lt_of_lt_of_le h.r2 b.size, Nat.lt_of_lt_of_le h.r3 b.size, Nat.lt_of_lt_of_le h.r4 b.size, Nat.lt_of_lt_of_le h.r5 b.size⟩
abbrev list7 : List (String × DataW Unit) := [("math/bits.deBruijn32tab", Rows.laid_math_bits_deBruijn32tab), ("math/bits.deBruijn64tab", Rows.laid_math_bits_deBruijn64tab), ("internal/strconv.uint64pow10", Rows.laid_internal_strconv_uint64pow10), ("unicode/utf8.acceptRanges", Rows.laid_unicode_utf8_acceptRanges), ("strconv.ErrRange", Rows.laid_strconv_ErrRange), ("strconv.ErrSyntax", Rows.laid_strconv_ErrSyntax), ("unicode/utf8.first", Rows.laid_unicode_utf8_first)]
set_option maxRecDepth 100000 in
theorem acc_eq : (Rows.laid_unicode_utf8_acceptRanges : DataW Unit) = Lib.acceptData := by kernel_rfl
theorem first_eq : Rows.laid_unicode_utf8_first = Lib.firstData := Pinned.utf8First_eq
theorem var_lt {P : Program} {n : String} {g : Nat} {w : World} {cs : Array Value} (hg : P.globalNamed n = some g) (h : w.var? P n = some cs) : g < w.heap.size := by
  unfold World.var? at h
  rw [hg] at h
  cases hh : w.heap[g]? with
  | none => simp [hh] at h
  | some o => exact (Array.getElem?_eq_some_iff.1 hh).1
set_option maxRecDepth 100000 in
theorem env_of7 {W : World} (h : laidMetH Tryd.prog list7 W) : Env W W.heap.size := by
  rw [MakeChecks.laidMetH_plain _ _ _ (by kernel_rfl)] at h
  have hT : Tab W := tab_of h.tail.tail
  obtain ⟨a1, s1, hv1, _, _, _⟩ := laid_sentinel h.tail.tail.tail.tail gRng gRngType Tryd.underlying88 errRow Tryd.underlying109 Tryd.underlying111 rfl rfl Tryd.underlying9 cellsErr cellsStr
  obtain ⟨a0, s0, hv0, _, _, _⟩ := laid_sentinel h.tail.tail.tail.tail.tail gSyn gSynType Tryd.underlying88 errRow Tryd.underlying109 Tryd.underlying111 rfl rfl Tryd.underlying9 cellsErr cellsStr
  have h3 : Lib.VarReads Tryd.prog W "unicode/utf8.first" Lib.firstData := first_eq ▸ Lib.laidMet.reads h (.tail _ (.tail _ (.tail _ (.tail _ (.tail _ (.tail _ (.head _)))))))
  have h4 : Lib.VarReads Tryd.prog W "unicode/utf8.acceptRanges" Lib.acceptData := acc_eq ▸ Lib.laidMet.reads h (.tail _ (.tail _ (.tail _ (.head _))))
  have hU : Uni W := utf8Tabs_of_reads (ρ := Tryd.lays260_ren) Tryd.lays260 ⟨by kernel_rfl, by kernel_rfl, by kernel_rfl, by kernel_rfl, by kernel_rfl, by kernel_rfl, by kernel_rfl⟩ h3 h4
  exact ⟨hU, hT, ⟨⟨_, _, hv0⟩, _, _, hv1⟩, hU.lt.1, hU.lt.2, var_lt gTab hT, var_lt gSyn hv0, var_lt gRng hv1⟩
end Go.Proofs.YtmkgbdgafjeeiamDoor
