/-
  DERIVED. GIVEN WITH THE SEED: THE CARDS: each row of YtmkgbdgafjeeiamDoorRows.lean that lists a variable, with what it lists TIED to the program's text (the seventh form; the later family's looks); each row that meets fmt, with fmt's text TOLD by the authors' own Lean function (tested against real Go, not proved from fmt's source: count such statements apart). THE CARD IS WHAT COUNTS. Prove the row's statement (the work); the ties are given (YtmkgbdgafjeeiamDoorTie.lean); close each card by the builder's one call (the guide's Derived/Test/ToyasCard.lean, 'card_holds'). Laid BY PROGRAM, IN A SANDBOX (cutbox-door.mjs). By AI agents, Wed Nov 11 2026. No macro, syntax, notation, axiom, sorry.
-/
import Derived.Test.YtmkgbdgafjeeiamDoorRows
import GoSem.ClaimSeven
namespace Go.Proofs.YtmkgbdgafjeeiamDoor
namespace Rows

/-- THE TIED CARD OF 'laws.FnExactTextCol'. -/
def fnExactTextColCard : Claim7 := { stood := { row := fnExactTextColRow, standIns := [], harness := (true, "c61fda6293baf88e6f191fbe6dafce1b2dfaa5e6046ecd6a33ae948bbf4f7a47"), looks := true }, kinds := [], alts := [], laidByText := true, laidKinds := [.data, .data, .data, .data, .sentinel, .sentinel, .pinned], laidTests := true, laidLooks := .later }
def FnExactTextColCardSaid : Prop := Claim7.holds Tryd.pinned (.plain (OpenSpec.ofChange fnExactTextColSpec)) fnExactTextColCard

/-- THE SECOND FORM's CARD OF 'laws.FnExactTextCol'. -/
def fnExactTextColUptoCard : Claim7 := { stood := { row := fnExactTextColUptoRow, standIns := [], harness := (true, "c61fda6293baf88e6f191fbe6dafce1b2dfaa5e6046ecd6a33ae948bbf4f7a47"), looks := true }, kinds := [], alts := [], laidByText := true, laidKinds := [.data, .data, .data, .data, .sentinel, .sentinel, .pinned], laidTests := true, laidLooks := .later }
def FnExactTextColUptoCardSaid : Prop := Claim7.holds Tryd.pinned (.plain (OpenSpec.upto fnExactTextColSpec)) fnExactTextColUptoCard
end Rows
end Go.Proofs.YtmkgbdgafjeeiamDoor
