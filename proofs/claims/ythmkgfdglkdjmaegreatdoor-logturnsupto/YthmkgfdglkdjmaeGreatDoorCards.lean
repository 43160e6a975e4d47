/-
  DERIVED. GIVEN WITH THE SEED: THE CARDS: each row of YthmkgfdglkdjmaeGreatDoorRows.lean that lists a variable, with what it lists TIED to the program's text (the seventh form; the later family's looks); each row that meets fmt, with fmt's text TOLD by the authors' own Lean function (tested against real Go, not proved from fmt's source: count such statements apart). THE CARD IS WHAT COUNTS. Prove the row's statement (the work); the ties are given (YthmkgfdglkdjmaeGreatDoorTie.lean); close each card by the builder's one call (the guide's Derived/Test/ToyasCard.lean, 'card_holds'). Laid BY PROGRAM, IN A SANDBOX (cutbox-door.mjs). By AI agents, Wed Nov 11 2026. No macro, syntax, notation, axiom, sorry.
-/
import Derived.Test.YthmkgfdglkdjmaeGreatDoorRows
import GoSem.ClaimSeven
namespace Go.Proofs.YthmkgfdglkdjmaeGreatDoor
namespace Rows

/-- THE TIED CARD OF 'rflaw9.LogTurns'. -/
def logTurnsCard : Claim7 := { stood := { row := logTurnsRow, standIns := [], harness := (true, "bb5f9460279837dc7a852deb2e0fe8589f7a6cc8907d1abcf030cbd813feeb4a"), looks := true }, kinds := [], alts := [], laidByText := true, laidKinds := [.data, .data, .data, .data, .sentinel, .sentinel, .data, .pinned], laidTests := true, laidLooks := .later }
def LogTurnsCardSaid : Prop := Claim7.holds Tryz.pinned (.plain (OpenSpec.ofChange logTurnsSpec)) logTurnsCard

/-- THE TIED CARD OF 'rflaw9.LogByte'. -/
def logByteCard : Claim7 := { stood := { row := logByteRow, standIns := [], harness := (true, "bb5f9460279837dc7a852deb2e0fe8589f7a6cc8907d1abcf030cbd813feeb4a"), looks := true }, kinds := [], alts := [], laidByText := true, laidKinds := [.data, .data, .data, .data, .sentinel, .sentinel, .data, .pinned], laidTests := true, laidLooks := .later }
def LogByteCardSaid : Prop := Claim7.holds Tryz.pinned (.plain (OpenSpec.ofChange logByteSpec)) logByteCard

/-- THE SECOND FORM's CARD OF 'rflaw9.LogTurns'. -/
def logTurnsUptoCard : Claim7 := { stood := { row := logTurnsUptoRow, standIns := [], harness := (true, "bb5f9460279837dc7a852deb2e0fe8589f7a6cc8907d1abcf030cbd813feeb4a"), looks := true }, kinds := [], alts := [], laidByText := true, laidKinds := [.data, .data, .data, .data, .sentinel, .sentinel, .data, .pinned], laidTests := true, laidLooks := .later }
def LogTurnsUptoCardSaid : Prop := Claim7.holds Tryz.pinned (.plain (OpenSpec.upto logTurnsSpec)) logTurnsUptoCard

/-- THE SECOND FORM's CARD OF 'rflaw9.LogByte'. -/
def logByteUptoCard : Claim7 := { stood := { row := logByteUptoRow, standIns := [], harness := (true, "bb5f9460279837dc7a852deb2e0fe8589f7a6cc8907d1abcf030cbd813feeb4a"), looks := true }, kinds := [], alts := [], laidByText := true, laidKinds := [.data, .data, .data, .data, .sentinel, .sentinel, .data, .pinned], laidTests := true, laidLooks := .later }
def LogByteUptoCardSaid : Prop := Claim7.holds Tryz.pinned (.plain (OpenSpec.upto logByteSpec)) logByteUptoCard
end Rows
end Go.Proofs.YthmkgfdglkdjmaeGreatDoor
