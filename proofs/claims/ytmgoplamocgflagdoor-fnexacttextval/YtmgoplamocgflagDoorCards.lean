/-
  DERIVED. GIVEN WITH THE SEED: THE CARDS: each row of YtmgoplamocgflagDoorRows.lean that lists a variable, with what it lists TIED to the program's text (the seventh form; the later family's looks); each row that meets fmt, with fmt's text TOLD by the authors' own Lean function (tested against real Go, not proved from fmt's source: count such statements apart). THE CARD IS WHAT COUNTS. Prove the row's statement (the work); the ties are given (YtmgoplamocgflagDoorTie.lean); close each card by the builder's one call (the guide's Derived/Test/ToyasCard.lean, 'card_holds'). Laid BY PROGRAM, IN A SANDBOX (cutbox-door.mjs). By AI agents, Wed Nov 11 2026. No macro, syntax, notation, axiom, sorry.
-/
import Derived.Test.YtmgoplamocgflagDoorRows
import GoSem.ClaimSeven
namespace Go.Proofs.YtmgoplamocgflagDoor
namespace Rows

/-- THE TIED CARD OF 'laws.FnExactCast'. -/
def fnExactCastCard : Claim7 := { stood := { row := fnExactCastRow, standIns := [], harness := (true, "7af87ed1f92aeab91e05869aa74902a038528bbf41939c0241faa288502e01c2"), looks := true }, kinds := [], alts := [], laidByText := true, laidKinds := [.data, .data, .data, .sentinel, .sentinel], laidTests := true, laidLooks := .later }
def FnExactCastCardSaid : Prop := Claim7.holds Tryd.pinned (.plain (OpenSpec.ofChange fnExactCastSpec)) fnExactCastCard

/-- THE TIED CARD OF 'laws.FnExactNumText'. -/
def fnExactNumTextCard : Claim7 := { stood := { row := fnExactNumTextRow, standIns := [], harness := (true, "7af87ed1f92aeab91e05869aa74902a038528bbf41939c0241faa288502e01c2"), looks := true }, kinds := [], alts := [], laidByText := true, laidKinds := [.data, .data, .data], laidTests := true, laidLooks := .later }
def FnExactNumTextCardSaid : Prop := Claim7.holds Tryd.pinned (.plain (OpenSpec.ofChange fnExactNumTextSpec)) fnExactNumTextCard

/-- THE TIED CARD OF 'laws.FnExactTextNum'. -/
def fnExactTextNumCard : Claim7 := { stood := { row := fnExactTextNumRow, standIns := [], harness := (true, "7af87ed1f92aeab91e05869aa74902a038528bbf41939c0241faa288502e01c2"), looks := true }, kinds := [], alts := [], laidByText := true, laidKinds := [.data, .data, .data, .sentinel, .sentinel], laidTests := true, laidLooks := .later }
def FnExactTextNumCardSaid : Prop := Claim7.holds Tryd.pinned (.plain (OpenSpec.ofChange fnExactTextNumSpec)) fnExactTextNumCard

/-- THE TIED CARD OF 'laws.FnExactTextVal'. -/
def fnExactTextValCard : Claim7 := { stood := { row := fnExactTextValRow, standIns := [], harness := (true, "7af87ed1f92aeab91e05869aa74902a038528bbf41939c0241faa288502e01c2"), looks := true }, kinds := [], alts := [], laidByText := true, laidKinds := [.data, .data, .data, .sentinel, .sentinel], laidTests := true, laidLooks := .later }
def FnExactTextValCardSaid : Prop := Claim7.holds Tryd.pinned (.plain (OpenSpec.ofChange fnExactTextValSpec)) fnExactTextValCard

/-- THE SECOND FORM's CARD OF 'laws.FnExactCast'. -/
def fnExactCastUptoCard : Claim7 := { stood := { row := fnExactCastUptoRow, standIns := [], harness := (true, "7af87ed1f92aeab91e05869aa74902a038528bbf41939c0241faa288502e01c2"), looks := true }, kinds := [], alts := [], laidByText := true, laidKinds := [.data, .data, .data, .sentinel, .sentinel], laidTests := true, laidLooks := .later }
def FnExactCastUptoCardSaid : Prop := Claim7.holds Tryd.pinned (.plain (OpenSpec.upto fnExactCastSpec)) fnExactCastUptoCard

/-- THE SECOND FORM's CARD OF 'laws.FnExactNumText'. -/
def fnExactNumTextUptoCard : Claim7 := { stood := { row := fnExactNumTextUptoRow, standIns := [], harness := (true, "7af87ed1f92aeab91e05869aa74902a038528bbf41939c0241faa288502e01c2"), looks := true }, kinds := [], alts := [], laidByText := true, laidKinds := [.data, .data, .data], laidTests := true, laidLooks := .later }
def FnExactNumTextUptoCardSaid : Prop := Claim7.holds Tryd.pinned (.plain (OpenSpec.upto fnExactNumTextSpec)) fnExactNumTextUptoCard

/-- THE SECOND FORM's CARD OF 'laws.FnExactTextNum'. -/
def fnExactTextNumUptoCard : Claim7 := { stood := { row := fnExactTextNumUptoRow, standIns := [], harness := (true, "7af87ed1f92aeab91e05869aa74902a038528bbf41939c0241faa288502e01c2"), looks := true }, kinds := [], alts := [], laidByText := true, laidKinds := [.data, .data, .data, .sentinel, .sentinel], laidTests := true, laidLooks := .later }
def FnExactTextNumUptoCardSaid : Prop := Claim7.holds Tryd.pinned (.plain (OpenSpec.upto fnExactTextNumSpec)) fnExactTextNumUptoCard

/-- THE SECOND FORM's CARD OF 'laws.FnExactTextVal'. -/
def fnExactTextValUptoCard : Claim7 := { stood := { row := fnExactTextValUptoRow, standIns := [], harness := (true, "7af87ed1f92aeab91e05869aa74902a038528bbf41939c0241faa288502e01c2"), looks := true }, kinds := [], alts := [], laidByText := true, laidKinds := [.data, .data, .data, .sentinel, .sentinel], laidTests := true, laidLooks := .later }
def FnExactTextValUptoCardSaid : Prop := Claim7.holds Tryd.pinned (.plain (OpenSpec.upto fnExactTextValSpec)) fnExactTextValUptoCard
end Rows
end Go.Proofs.YtmgoplamocgflagDoor
