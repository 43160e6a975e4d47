/-
  DERIVED. GIVEN WITH THE SEED: THE CARDS: each row of YtfdliblikkpjiabDoorRows.lean that lists a variable, with what it lists TIED to the program's text (the seventh form; the later family's looks); each row that meets fmt, with fmt's text TOLD by the authors' own Lean function (tested against real Go, not proved from fmt's source: count such statements apart). THE CARD IS WHAT COUNTS. Prove the row's statement (the work); the ties are given (YtfdliblikkpjiabDoorTie.lean); close each card by the builder's one call (the guide's Derived/Test/ToyasCard.lean, 'card_holds'). Laid BY PROGRAM, IN A SANDBOX (cutbox-door.mjs). By AI agents, Wed Nov 11 2026. No macro, syntax, notation, axiom, sorry.
-/
import Derived.Test.YtfdliblikkpjiabDoorRows
import GoSem.ClaimSeven
namespace Go.Proofs.YtfdliblikkpjiabDoor
namespace Rows

/-- THE TIED CARD OF 'rflaw3.TextTurns'. -/
def textTurnsCard : Claim7 := { stood := { row := textTurnsRow, standIns := [], harness := (true, "3eae96d88087bbf2f6abf01778a237138b412fc93f2174be04e63fe77f8e75a9"), looks := true }, kinds := [], alts := [], laidByText := true, laidKinds := [.data, .data, .data, .data, .sentinel, .sentinel, .data, .pinned], laidTests := true, laidLooks := .later }
def TextTurnsCardSaid : Prop := Claim7.holds Tryd.pinned (.plain (OpenSpec.ofChange textTurnsSpec)) textTurnsCard

/-- THE TIED CARD OF 'rflaw4.PlainFails'. -/
def plainFailsCard : Claim7 := { stood := { row := plainFailsRow, standIns := [], harness := (true, "3eae96d88087bbf2f6abf01778a237138b412fc93f2174be04e63fe77f8e75a9"), looks := true }, kinds := [], alts := [], laidByText := true, laidKinds := [.data, .data, .data, .sentinel, .sentinel], laidTests := true, laidLooks := .later }
def PlainFailsCardSaid : Prop := Claim7.holds Tryd.pinned (.plain (OpenSpec.ofChange plainFailsSpec)) plainFailsCard

/-- THE TIED CARD OF 'rflaw4.PlainApart'. -/
def plainApartCard : Claim7 := { stood := { row := plainApartRow, standIns := [], harness := (true, "3eae96d88087bbf2f6abf01778a237138b412fc93f2174be04e63fe77f8e75a9"), looks := true }, kinds := [], alts := [], laidByText := true, laidKinds := [.data, .data, .data, .sentinel, .sentinel], laidTests := true, laidLooks := .later }
def PlainApartCardSaid : Prop := Claim7.holds Tryd.pinned (.plain (OpenSpec.ofChange plainApartSpec)) plainApartCard

/-- THE SECOND FORM's CARD OF 'rflaw3.TextTurns'. -/
def textTurnsUptoCard : Claim7 := { stood := { row := textTurnsUptoRow, standIns := [], harness := (true, "3eae96d88087bbf2f6abf01778a237138b412fc93f2174be04e63fe77f8e75a9"), looks := true }, kinds := [], alts := [], laidByText := true, laidKinds := [.data, .data, .data, .data, .sentinel, .sentinel, .data, .pinned], laidTests := true, laidLooks := .later }
def TextTurnsUptoCardSaid : Prop := Claim7.holds Tryd.pinned (.plain (OpenSpec.upto textTurnsSpec)) textTurnsUptoCard

/-- THE SECOND FORM's CARD OF 'rflaw4.PlainFails'. -/
def plainFailsUptoCard : Claim7 := { stood := { row := plainFailsUptoRow, standIns := [], harness := (true, "3eae96d88087bbf2f6abf01778a237138b412fc93f2174be04e63fe77f8e75a9"), looks := true }, kinds := [], alts := [], laidByText := true, laidKinds := [.data, .data, .data, .sentinel, .sentinel], laidTests := true, laidLooks := .later }
def PlainFailsUptoCardSaid : Prop := Claim7.holds Tryd.pinned (.plain (OpenSpec.upto plainFailsSpec)) plainFailsUptoCard

/-- THE SECOND FORM's CARD OF 'rflaw4.PlainApart'. -/
def plainApartUptoCard : Claim7 := { stood := { row := plainApartUptoRow, standIns := [], harness := (true, "3eae96d88087bbf2f6abf01778a237138b412fc93f2174be04e63fe77f8e75a9"), looks := true }, kinds := [], alts := [], laidByText := true, laidKinds := [.data, .data, .data, .sentinel, .sentinel], laidTests := true, laidLooks := .later }
def PlainApartUptoCardSaid : Prop := Claim7.holds Tryd.pinned (.plain (OpenSpec.upto plainApartSpec)) plainApartUptoCard
end Rows
end Go.Proofs.YtfdliblikkpjiabDoor
