/-
  DERIVED. GIVEN WITH THE SEED: THE CARDS: each row of YtmgoplamocgfladDoorRows.lean that lists a variable, with what it lists TIED to the program's text (the seventh form; the later family's looks); each row that meets fmt, with fmt's text TOLD by the authors' own Lean function (tested against real Go, not proved from fmt's source: count such statements apart). THE CARD IS WHAT COUNTS. Prove the row's statement (the work); the ties are given (YtmgoplamocgfladDoorTie.lean); close each card by the builder's one call (the guide's Derived/Test/ToyasCard.lean, 'card_holds'). Laid BY PROGRAM, IN A SANDBOX (cutbox-door.mjs). By AI agents, Wed Nov 11 2026. No macro, syntax, notation, axiom, sorry.
-/
import Derived.Test.YtmgoplamocgfladDoorRows
import GoSem.ClaimSeven
namespace Go.Proofs.YtmgoplamocgfladDoor
namespace Rows

/-- THE TIED CARD OF 'laws.FnVal'. -/
def fnValCard : Claim7 := { stood := { row := fnValRow, standIns := [], harness := (true, "e3c998bcd69e4a18e206d54d879c77d252c549bd2081b28ee8e373d4b7ee8c27"), looks := true }, kinds := [], alts := [], laidByText := true, laidKinds := [.data, .data, .data, .sentinel, .sentinel], laidTests := true, laidLooks := .later }
def FnValCardSaid : Prop := Claim7.holds Tryd.pinned (.plain (OpenSpec.ofChange fnValSpec)) fnValCard

/-- THE TIED CARD OF 'laws.FnCast'. -/
def fnCastCard : Claim7 := { stood := { row := fnCastRow, standIns := [], harness := (true, "e3c998bcd69e4a18e206d54d879c77d252c549bd2081b28ee8e373d4b7ee8c27"), looks := true }, kinds := [], alts := [], laidByText := true, laidKinds := [.data, .data, .data, .sentinel, .sentinel], laidTests := true, laidLooks := .later }
def FnCastCardSaid : Prop := Claim7.holds Tryd.pinned (.plain (OpenSpec.ofChange fnCastSpec)) fnCastCard

/-- THE SECOND FORM's CARD OF 'laws.FnVal'. -/
def fnValUptoCard : Claim7 := { stood := { row := fnValUptoRow, standIns := [], harness := (true, "e3c998bcd69e4a18e206d54d879c77d252c549bd2081b28ee8e373d4b7ee8c27"), looks := true }, kinds := [], alts := [], laidByText := true, laidKinds := [.data, .data, .data, .sentinel, .sentinel], laidTests := true, laidLooks := .later }
def FnValUptoCardSaid : Prop := Claim7.holds Tryd.pinned (.plain (OpenSpec.upto fnValSpec)) fnValUptoCard

/-- THE SECOND FORM's CARD OF 'laws.FnCast'. -/
def fnCastUptoCard : Claim7 := { stood := { row := fnCastUptoRow, standIns := [], harness := (true, "e3c998bcd69e4a18e206d54d879c77d252c549bd2081b28ee8e373d4b7ee8c27"), looks := true }, kinds := [], alts := [], laidByText := true, laidKinds := [.data, .data, .data, .sentinel, .sentinel], laidTests := true, laidLooks := .later }
def FnCastUptoCardSaid : Prop := Claim7.holds Tryd.pinned (.plain (OpenSpec.upto fnCastSpec)) fnCastUptoCard
end Rows
end Go.Proofs.YtmgoplamocgfladDoor
