/-
  DERIVED. GIVEN WITH THE SEED: THE CARDS: each row of YtlhaeeenkgkdaaaGreatDoorRows.lean that lists a variable, with what it lists TIED to the program's text (the seventh form; the later family's looks); each row that meets fmt, with fmt's text TOLD by the authors' own Lean function (tested against real Go, not proved from fmt's source: count such statements apart). THE CARD IS WHAT COUNTS. Prove the row's statement (the work); the ties are given (YtlhaeeenkgkdaaaGreatDoorTie.lean); close each card by the builder's one call (the guide's Derived/Test/ToyasCard.lean, 'card_holds'). Laid BY PROGRAM, IN A SANDBOX (cutbox-door.mjs). By AI agents, Wed Nov 11 2026. No macro, syntax, notation, axiom, sorry.
-/
import Derived.Test.YtlhaeeenkgkdaaaGreatDoorRows
import GoSem.ClaimSeven
namespace Go.Proofs.YtlhaeeenkgkdaaaGreatDoor
namespace Rows

/-- THE TIED CARD OF 'rflaw10.ReplicaTwice'. -/
def replicaTwiceCard : Claim7 := { stood := { row := replicaTwiceRow, standIns := [], harness := (true, "c815390285be2b42cf095ac77e9fb39412787fe404772ee8d8fe6b1cd7ddde14"), looks := true }, kinds := [], alts := [], laidByText := true, laidKinds := [.data, .data, .data, .sentinel, .sentinel], laidTests := true, laidLooks := .later }
def ReplicaTwiceCardSaid : Prop := Claim7.holds Tryz.pinned (.plain (OpenSpec.ofChange replicaTwiceSpec)) replicaTwiceCard

/-- THE SECOND FORM's CARD OF 'rflaw10.ReplicaTwice'. -/
def replicaTwiceUptoCard : Claim7 := { stood := { row := replicaTwiceUptoRow, standIns := [], harness := (true, "c815390285be2b42cf095ac77e9fb39412787fe404772ee8d8fe6b1cd7ddde14"), looks := true }, kinds := [], alts := [], laidByText := true, laidKinds := [.data, .data, .data, .sentinel, .sentinel], laidTests := true, laidLooks := .later }
def ReplicaTwiceUptoCardSaid : Prop := Claim7.holds Tryz.pinned (.plain (OpenSpec.upto replicaTwiceSpec)) replicaTwiceUptoCard
end Rows
end Go.Proofs.YtlhaeeenkgkdaaaGreatDoor
