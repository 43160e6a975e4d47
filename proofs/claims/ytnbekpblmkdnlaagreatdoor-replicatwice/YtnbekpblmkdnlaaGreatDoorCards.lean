/-
  DERIVED. GIVEN WITH THE SEED: THE CARDS: each row of YtnbekpblmkdnlaaGreatDoorRows.lean that lists a variable, with what it lists TIED to the program's text (the seventh form; the later family's looks); each row that meets fmt, with fmt's text TOLD by the authors' own Lean function (tested against real Go, not proved from fmt's source: count such statements apart). THE CARD IS WHAT COUNTS. Prove the row's statement (the work); the ties are given (YtnbekpblmkdnlaaGreatDoorTie.lean); close each card by the builder's one call (the guide's Derived/Test/ToyasCard.lean, 'card_holds'). Laid BY PROGRAM, IN A SANDBOX (cutbox-door.mjs). By AI agents, Wed Nov 11 2026. No macro, syntax, notation, axiom, sorry.
-/
import Derived.Test.YtnbekpblmkdnlaaGreatDoorRows
import GoSem.ClaimSeven
namespace Go.Proofs.YtnbekpblmkdnlaaGreatDoor
namespace Rows

/-- THE TIED CARD OF 'rflaw10.ReplicaOrder'. -/
def replicaOrderCard : Claim7 := { stood := { row := replicaOrderRow, standIns := [], harness := (true, "0ff4a264cc81b7225c6e5258a238e543922b0ab22a5e3c88803421c6d70781c2"), looks := true }, kinds := [], alts := [], laidByText := true, laidKinds := [.data, .data, .data, .sentinel, .sentinel], laidTests := true, laidLooks := .later }
def ReplicaOrderCardSaid : Prop := Claim7.holds Tryz.pinned (.plain (OpenSpec.ofChange replicaOrderSpec)) replicaOrderCard

/-- THE TIED CARD OF 'rflaw10.ReplicaClear'. -/
def replicaClearCard : Claim7 := { stood := { row := replicaClearRow, standIns := [], harness := (true, "0ff4a264cc81b7225c6e5258a238e543922b0ab22a5e3c88803421c6d70781c2"), looks := true }, kinds := [], alts := [], laidByText := true, laidKinds := [.data, .data, .data, .sentinel, .sentinel], laidTests := true, laidLooks := .later }
def ReplicaClearCardSaid : Prop := Claim7.holds Tryz.pinned (.plain (OpenSpec.ofChange replicaClearSpec)) replicaClearCard

/-- THE TIED CARD OF 'rflaw10.ReplicaTwice'. -/
def replicaTwiceCard : Claim7 := { stood := { row := replicaTwiceRow, standIns := [], harness := (true, "0ff4a264cc81b7225c6e5258a238e543922b0ab22a5e3c88803421c6d70781c2"), looks := true }, kinds := [], alts := [], laidByText := true, laidKinds := [.data, .data, .data, .sentinel, .sentinel], laidTests := true, laidLooks := .later }
def ReplicaTwiceCardSaid : Prop := Claim7.holds Tryz.pinned (.plain (OpenSpec.ofChange replicaTwiceSpec)) replicaTwiceCard

/-- THE SECOND FORM's CARD OF 'rflaw10.ReplicaOrder'. -/
def replicaOrderUptoCard : Claim7 := { stood := { row := replicaOrderUptoRow, standIns := [], harness := (true, "0ff4a264cc81b7225c6e5258a238e543922b0ab22a5e3c88803421c6d70781c2"), looks := true }, kinds := [], alts := [], laidByText := true, laidKinds := [.data, .data, .data, .sentinel, .sentinel], laidTests := true, laidLooks := .later }
def ReplicaOrderUptoCardSaid : Prop := Claim7.holds Tryz.pinned (.plain (OpenSpec.upto replicaOrderSpec)) replicaOrderUptoCard

/-- THE SECOND FORM's CARD OF 'rflaw10.ReplicaClear'. -/
def replicaClearUptoCard : Claim7 := { stood := { row := replicaClearUptoRow, standIns := [], harness := (true, "0ff4a264cc81b7225c6e5258a238e543922b0ab22a5e3c88803421c6d70781c2"), looks := true }, kinds := [], alts := [], laidByText := true, laidKinds := [.data, .data, .data, .sentinel, .sentinel], laidTests := true, laidLooks := .later }
def ReplicaClearUptoCardSaid : Prop := Claim7.holds Tryz.pinned (.plain (OpenSpec.upto replicaClearSpec)) replicaClearUptoCard

/-- THE SECOND FORM's CARD OF 'rflaw10.ReplicaTwice'. -/
def replicaTwiceUptoCard : Claim7 := { stood := { row := replicaTwiceUptoRow, standIns := [], harness := (true, "0ff4a264cc81b7225c6e5258a238e543922b0ab22a5e3c88803421c6d70781c2"), looks := true }, kinds := [], alts := [], laidByText := true, laidKinds := [.data, .data, .data, .sentinel, .sentinel], laidTests := true, laidLooks := .later }
def ReplicaTwiceUptoCardSaid : Prop := Claim7.holds Tryz.pinned (.plain (OpenSpec.upto replicaTwiceSpec)) replicaTwiceUptoCard
end Rows
end Go.Proofs.YtnbekpblmkdnlaaGreatDoor
