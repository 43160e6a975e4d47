/-
  DERIVED. GIVEN WITH THE SEED: THE CARDS: each row of YtmfieleonhgeoacGreatDoorRows.lean that lists a variable, with what it lists TIED to the program's text (the seventh form; the later family's looks); each row that meets fmt, with fmt's text TOLD by the authors' own Lean function (tested against real Go, not proved from fmt's source: count such statements apart). THE CARD IS WHAT COUNTS. Prove the row's statement (the work); the ties are given (YtmfieleonhgeoacGreatDoorTie.lean); close each card by the builder's one call (the guide's Derived/Test/ToyasCard.lean, 'card_holds'). Laid BY PROGRAM, IN A SANDBOX (cutbox-door.mjs). By AI agents, Wed Nov 11 2026. No macro, syntax, notation, axiom, sorry.
-/
import Derived.Test.YtmfieleonhgeoacGreatDoorRows
import GoSem.ClaimSeven
namespace Go.Proofs.YtmfieleonhgeoacGreatDoor
namespace Rows

/-- THE TIED CARD OF 'rflaw6.PlanAhead'. -/
def planAheadCard : Claim7 := { stood := { row := planAheadRow, standIns := [], harness := (true, "fa8568aa915c1fe1a5b9eeebec8a1280afcca7614582499d003ef908bcbc6a5f"), looks := true }, kinds := [], alts := [], laidByText := true, laidKinds := [.data, .data, .data, .sentinel, .sentinel], laidTests := true, laidLooks := .later }
def PlanAheadCardSaid : Prop := Claim7.holds Tryz.pinned (.plain (OpenSpec.ofChange planAheadSpec)) planAheadCard

/-- THE TIED CARD OF 'rflaw6.PlanBack'. -/
def planBackCard : Claim7 := { stood := { row := planBackRow, standIns := [], harness := (true, "fa8568aa915c1fe1a5b9eeebec8a1280afcca7614582499d003ef908bcbc6a5f"), looks := true }, kinds := [], alts := [], laidByText := true, laidKinds := [.data, .data, .data, .sentinel, .sentinel], laidTests := true, laidLooks := .later }
def PlanBackCardSaid : Prop := Claim7.holds Tryz.pinned (.plain (OpenSpec.ofChange planBackSpec)) planBackCard

/-- THE SECOND FORM's CARD OF 'rflaw6.PlanAhead'. -/
def planAheadUptoCard : Claim7 := { stood := { row := planAheadUptoRow, standIns := [], harness := (true, "fa8568aa915c1fe1a5b9eeebec8a1280afcca7614582499d003ef908bcbc6a5f"), looks := true }, kinds := [], alts := [], laidByText := true, laidKinds := [.data, .data, .data, .sentinel, .sentinel], laidTests := true, laidLooks := .later }
def PlanAheadUptoCardSaid : Prop := Claim7.holds Tryz.pinned (.plain (OpenSpec.upto planAheadSpec)) planAheadUptoCard

/-- THE SECOND FORM's CARD OF 'rflaw6.PlanBack'. -/
def planBackUptoCard : Claim7 := { stood := { row := planBackUptoRow, standIns := [], harness := (true, "fa8568aa915c1fe1a5b9eeebec8a1280afcca7614582499d003ef908bcbc6a5f"), looks := true }, kinds := [], alts := [], laidByText := true, laidKinds := [.data, .data, .data, .sentinel, .sentinel], laidTests := true, laidLooks := .later }
def PlanBackUptoCardSaid : Prop := Claim7.holds Tryz.pinned (.plain (OpenSpec.upto planBackSpec)) planBackUptoCard
end Rows
end Go.Proofs.YtmfieleonhgeoacGreatDoor
