/-
  DERIVED. GIVEN WITH THE SEED: THE CARDS: each row of YthmkgfdglkdjmadGreatDoorRows.lean that lists a variable, with what it lists TIED to the program's text (the seventh form; the later family's looks); each row that meets fmt, with fmt's text TOLD by the authors' own Lean function (tested against real Go, not proved from fmt's source: count such statements apart). THE CARD IS WHAT COUNTS. Prove the row's statement (the work); the ties are given (YthmkgfdglkdjmadGreatDoorTie.lean); close each card by the builder's one call (the guide's Derived/Test/ToyasCard.lean, 'card_holds'). Laid BY PROGRAM, IN A SANDBOX (cutbox-door.mjs). By AI agents, Wed Nov 11 2026. No macro, syntax, notation, axiom, sorry.
-/
import Derived.Test.YthmkgfdglkdjmadGreatDoorRows
import GoSem.ClaimSeven
namespace Go.Proofs.YthmkgfdglkdjmadGreatDoor
namespace Rows

/-- THE TIED CARD OF 'rflaw7.RunEach'. -/
def runEachCard : Claim7 := { stood := { row := runEachRow, standIns := [], harness := (true, "7e36dc5f302a1a1fbed8acc012bd0891cc340b41d3a455107ab5aa6bf629a970"), looks := true }, kinds := [], alts := [], laidByText := true, laidKinds := [.data, .data, .data, .sentinel, .sentinel], laidTests := true, laidLooks := .later }
def RunEachCardSaid : Prop := Claim7.holds Tryz.pinned (.plain (OpenSpec.ofChange runEachSpec)) runEachCard

/-- THE TIED CARD OF 'rflaw7.RunMore'. -/
def runMoreCard : Claim7 := { stood := { row := runMoreRow, standIns := [], harness := (true, "7e36dc5f302a1a1fbed8acc012bd0891cc340b41d3a455107ab5aa6bf629a970"), looks := true }, kinds := [], alts := [], laidByText := true, laidKinds := [.data, .data, .data, .sentinel, .sentinel], laidTests := true, laidLooks := .later }
def RunMoreCardSaid : Prop := Claim7.holds Tryz.pinned (.plain (OpenSpec.ofChange runMoreSpec)) runMoreCard

/-- THE TIED CARD OF 'rflaw9.LogTells'. -/
def logTellsCard : Claim7 := { stood := { row := logTellsRow, standIns := [], harness := (true, "7e36dc5f302a1a1fbed8acc012bd0891cc340b41d3a455107ab5aa6bf629a970"), looks := true }, kinds := [], alts := [], laidByText := true, laidKinds := [.data, .data, .data, .data, .sentinel, .sentinel, .data, .pinned], laidTests := true, laidLooks := .later }
def LogTellsCardSaid : Prop := Claim7.holds Tryz.pinned (.plain (OpenSpec.ofChange logTellsSpec)) logTellsCard

/-- THE SECOND FORM's CARD OF 'rflaw7.RunEach'. -/
def runEachUptoCard : Claim7 := { stood := { row := runEachUptoRow, standIns := [], harness := (true, "7e36dc5f302a1a1fbed8acc012bd0891cc340b41d3a455107ab5aa6bf629a970"), looks := true }, kinds := [], alts := [], laidByText := true, laidKinds := [.data, .data, .data, .sentinel, .sentinel], laidTests := true, laidLooks := .later }
def RunEachUptoCardSaid : Prop := Claim7.holds Tryz.pinned (.plain (OpenSpec.upto runEachSpec)) runEachUptoCard

/-- THE SECOND FORM's CARD OF 'rflaw7.RunMore'. -/
def runMoreUptoCard : Claim7 := { stood := { row := runMoreUptoRow, standIns := [], harness := (true, "7e36dc5f302a1a1fbed8acc012bd0891cc340b41d3a455107ab5aa6bf629a970"), looks := true }, kinds := [], alts := [], laidByText := true, laidKinds := [.data, .data, .data, .sentinel, .sentinel], laidTests := true, laidLooks := .later }
def RunMoreUptoCardSaid : Prop := Claim7.holds Tryz.pinned (.plain (OpenSpec.upto runMoreSpec)) runMoreUptoCard

/-- THE SECOND FORM's CARD OF 'rflaw9.LogTells'. -/
def logTellsUptoCard : Claim7 := { stood := { row := logTellsUptoRow, standIns := [], harness := (true, "7e36dc5f302a1a1fbed8acc012bd0891cc340b41d3a455107ab5aa6bf629a970"), looks := true }, kinds := [], alts := [], laidByText := true, laidKinds := [.data, .data, .data, .data, .sentinel, .sentinel, .data, .pinned], laidTests := true, laidLooks := .later }
def LogTellsUptoCardSaid : Prop := Claim7.holds Tryz.pinned (.plain (OpenSpec.upto logTellsSpec)) logTellsUptoCard
end Rows
end Go.Proofs.YthmkgfdglkdjmadGreatDoor
