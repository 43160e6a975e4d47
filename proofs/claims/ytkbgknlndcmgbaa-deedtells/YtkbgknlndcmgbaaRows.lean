/-
  No cell of these rows narrows 'for every input' (looked for: loops, veiled, ifaces, maps, wideKeys, modest, calm, conditions, laid).
  DERIVED. THE GIVEN ROWS OF THIS SEAT. 5 by the template 'for every input the law returns true; each argument reads behind the call as it read before'; 0 by the template 'total and deterministic' (their statements: YtkbgknlndcmgbaaTotals.lean).
  GIVEN WITH THE SEED: the statements are not yours to turn. If you find one false, say at which input.
  Laid BY PROGRAM, IN A SANDBOX (cutbox-rows.mjs): the forced cells as the released guide's own fill.sh prints them over the translation c874ff617ac78487… (all of the seat's roots in one cut). By AI agents, Wed Nov 11 2026. No macro, syntax, notation, axiom, sorry.
-/
import Derived.Test.YtkbgknlndcmgbaaChecked
import GoSem.Claim
import GoSem.ClaimJoined
import GoSem.ClaimMapViews
import Derived.JoinedTies
import Derived.KernelRfl
namespace Go.Proofs.Ytkbgknlndcmgbaa
/- THE CELL 'sum', in the pinned program and in every row, IS THE sha256 OF THE DUMP (.gsa) THAT YtkbgknlndcmgbaaProg.lean LOADS. Nothing in Lean hashes anything: it is a label: what it is worth is what the hold of that sum in a sandbox is worth. -/
noncomputable def Try.pinned : Pinned := { name := "ytkbgknlndcmgbaa", sum := "c874ff617ac7848710aab40e33df610c99bcb688e0852fff1eb4d5a0e6b08430", checked := Try.checked }
namespace Rows
def none {H : Type} : Left H := { results := [], args := [] }

/-- 'rflaw1.RowsTells': WHATEVER THE INPUT: true; the input reads as it did. -/
def rowsTellsSpec : ChangeSpec := { name := "rowsTells", fn := fun _ => fun
  | [d1, d2, d3] => { results := [.lit (.bool true)], args := [d1, d2, d3] }
  | _ => none }
def rowsTellsRow : OpenClaim := { program := "ytkbgknlndcmgbaa", sum := "c874ff617ac7848710aab40e33df610c99bcb688e0852fff1eb4d5a0e6b08430", func := "rankandfile/rflaw1.RowsTells", spec := "rowsTells", unfollowed := true, recurses := true, apart := false }
def RowsTellsSaid : Prop := rowsTellsRow.holds Try.pinned (OpenSpec.ofChange rowsTellsSpec)

/-- ITS FALSE NEIGHBOUR: 'it returns false'. Refute it at one input. -/
def rowsTellsWrong : ChangeSpec := { name := "rowsTells", fn := fun _ => fun
  | [d1, d2, d3] => { results := [.lit (.bool false)], args := [d1, d2, d3] }
  | _ => none }
def RowsTellsWrongFalsely : Prop := rowsTellsRow.holds Try.pinned (OpenSpec.ofChange rowsTellsWrong)

/-- 'rflaw1.RowsApart': WHATEVER THE INPUT: true; the input reads as it did. -/
def rowsApartSpec : ChangeSpec := { name := "rowsApart", fn := fun _ => fun
  | [d1, d2, d3, d4, d5] => { results := [.lit (.bool true)], args := [d1, d2, d3, d4, d5] }
  | _ => none }
def rowsApartRow : OpenClaim := { program := "ytkbgknlndcmgbaa", sum := "c874ff617ac7848710aab40e33df610c99bcb688e0852fff1eb4d5a0e6b08430", func := "rankandfile/rflaw1.RowsApart", spec := "rowsApart", unfollowed := true, recurses := true, apart := false }
def RowsApartSaid : Prop := rowsApartRow.holds Try.pinned (OpenSpec.ofChange rowsApartSpec)

/-- ITS FALSE NEIGHBOUR: 'it returns false'. Refute it at one input. -/
def rowsApartWrong : ChangeSpec := { name := "rowsApart", fn := fun _ => fun
  | [d1, d2, d3, d4, d5] => { results := [.lit (.bool false)], args := [d1, d2, d3, d4, d5] }
  | _ => none }
def RowsApartWrongFalsely : Prop := rowsApartRow.holds Try.pinned (OpenSpec.ofChange rowsApartWrong)

/-- 'rflaw1.RowsPut': WHATEVER THE INPUT: true; the input reads as it did. -/
def rowsPutSpec : ChangeSpec := { name := "rowsPut", fn := fun _ => fun
  | [d1, d2, d3, d4] => { results := [.lit (.bool true)], args := [d1, d2, d3, d4] }
  | _ => none }
def rowsPutRow : OpenClaim := { program := "ytkbgknlndcmgbaa", sum := "c874ff617ac7848710aab40e33df610c99bcb688e0852fff1eb4d5a0e6b08430", func := "rankandfile/rflaw1.RowsPut", spec := "rowsPut", unfollowed := true, recurses := true, apart := false }
def RowsPutSaid : Prop := rowsPutRow.holds Try.pinned (OpenSpec.ofChange rowsPutSpec)

/-- ITS FALSE NEIGHBOUR: 'it returns false'. Refute it at one input. -/
def rowsPutWrong : ChangeSpec := { name := "rowsPut", fn := fun _ => fun
  | [d1, d2, d3, d4] => { results := [.lit (.bool false)], args := [d1, d2, d3, d4] }
  | _ => none }
def RowsPutWrongFalsely : Prop := rowsPutRow.holds Try.pinned (OpenSpec.ofChange rowsPutWrong)

/-- 'rflaw2.DeedTells': WHATEVER THE INPUT: true; the input reads as it did. -/
def deedTellsSpec : ChangeSpec := { name := "deedTells", fn := fun _ => fun
  | [d1, d2, d3] => { results := [.lit (.bool true)], args := [d1, d2, d3] }
  | _ => none }
def deedTellsRow : OpenClaim := { program := "ytkbgknlndcmgbaa", sum := "c874ff617ac7848710aab40e33df610c99bcb688e0852fff1eb4d5a0e6b08430", func := "rankandfile/rflaw2.DeedTells", spec := "deedTells", unfollowed := true, recurses := true, apart := false }
def DeedTellsSaid : Prop := deedTellsRow.holds Try.pinned (OpenSpec.ofChange deedTellsSpec)

/-- ITS FALSE NEIGHBOUR: 'it returns false'. Refute it at one input. -/
def deedTellsWrong : ChangeSpec := { name := "deedTells", fn := fun _ => fun
  | [d1, d2, d3] => { results := [.lit (.bool false)], args := [d1, d2, d3] }
  | _ => none }
def DeedTellsWrongFalsely : Prop := deedTellsRow.holds Try.pinned (OpenSpec.ofChange deedTellsWrong)

/-- 'rflaw2.DeedNamed': WHATEVER THE INPUT: true; the input reads as it did. -/
def deedNamedSpec : ChangeSpec := { name := "deedNamed", fn := fun _ => fun
  | [d1, d2, d3, d4] => { results := [.lit (.bool true)], args := [d1, d2, d3, d4] }
  | _ => none }
def deedNamedRow : OpenClaim := { program := "ytkbgknlndcmgbaa", sum := "c874ff617ac7848710aab40e33df610c99bcb688e0852fff1eb4d5a0e6b08430", func := "rankandfile/rflaw2.DeedNamed", spec := "deedNamed", unfollowed := true, recurses := true, apart := false }
def DeedNamedSaid : Prop := deedNamedRow.holds Try.pinned (OpenSpec.ofChange deedNamedSpec)

/-- ITS FALSE NEIGHBOUR: 'it returns false'. Refute it at one input. -/
def deedNamedWrong : ChangeSpec := { name := "deedNamed", fn := fun _ => fun
  | [d1, d2, d3, d4] => { results := [.lit (.bool false)], args := [d1, d2, d3, d4] }
  | _ => none }
def DeedNamedWrongFalsely : Prop := deedNamedRow.holds Try.pinned (OpenSpec.ofChange deedNamedWrong)

/- THE SECOND FORM. 'bulk': how many values and letters a reading holds, each counted each time it is reached (what is shared counts as often as it is met; a slice's spare places count too). A statement '..UptoSaid' is the law's where the arguments, and the package variables that the reading takes, are together of bulk at most 1048576: NARROWER than '..Said'. Prove '..Said' where nothing that the law and all that it calls make is longer than what came in: it says more and counts as full. Else prove '..UptoSaid'. A law counts once. -/
mutual
def uptoBulk {H : Type} : DataW H → Nat
  | .lit (.string bytes) => bytes.length + 1
  | .lit _ => 1
  | .nil => 1
  | .ptr d => uptoBulk d + 1
  | .slice elems spare => uptoBulkAll elems + uptoBulkAll spare + 1
  | .agg parts => uptoBulkAll parts + 1
  | .iface _ d => uptoBulk d + 1
  | .map entries => uptoBulkEntries entries + 1
  | .held _ => 1
def uptoBulkAll {H : Type} : List (DataW H) → Nat
  | [] => 0
  | d :: r => uptoBulk d + uptoBulkAll r
def uptoBulkEntries {H : Type} : List (Lit × DataW H) → Nat
  | [] => 0
  | x :: r => uptoBulkEntry x + uptoBulkEntries r
def uptoBulkEntry {H : Type} : Lit × DataW H → Nat
  | (.string bytes, d) => bytes.length + uptoBulk d + 1
  | (_, d) => uptoBulk d + 1
 end
def uptoSmall : (H : Type) → List (DataW H) → Bool := fun _ ds => decide (uptoBulkAll ds ≤ 1048576)
def OpenSpec.upto (s : _root_.Go.ChangeSpec) : _root_.Go.OpenSpec := { _root_.Go.OpenSpec.ofChange s with cond := some uptoSmall }

/-- 'rflaw1.RowsTells', WHERE WHAT IT READS IS OF BULK AT MOST 1048576: true; the input reads as it did. -/
def rowsTellsUptoRow : OpenClaim := { program := "ytkbgknlndcmgbaa", sum := "c874ff617ac7848710aab40e33df610c99bcb688e0852fff1eb4d5a0e6b08430", func := "rankandfile/rflaw1.RowsTells", spec := "rowsTells", unfollowed := true, recurses := true, apart := false, narrowed := true }
def RowsTellsUptoSaid : Prop := rowsTellsUptoRow.holds Try.pinned (OpenSpec.upto rowsTellsSpec)

/-- 'rflaw1.RowsApart', WHERE WHAT IT READS IS OF BULK AT MOST 1048576: true; the input reads as it did. -/
def rowsApartUptoRow : OpenClaim := { program := "ytkbgknlndcmgbaa", sum := "c874ff617ac7848710aab40e33df610c99bcb688e0852fff1eb4d5a0e6b08430", func := "rankandfile/rflaw1.RowsApart", spec := "rowsApart", unfollowed := true, recurses := true, apart := false, narrowed := true }
def RowsApartUptoSaid : Prop := rowsApartUptoRow.holds Try.pinned (OpenSpec.upto rowsApartSpec)

/-- 'rflaw1.RowsPut', WHERE WHAT IT READS IS OF BULK AT MOST 1048576: true; the input reads as it did. -/
def rowsPutUptoRow : OpenClaim := { program := "ytkbgknlndcmgbaa", sum := "c874ff617ac7848710aab40e33df610c99bcb688e0852fff1eb4d5a0e6b08430", func := "rankandfile/rflaw1.RowsPut", spec := "rowsPut", unfollowed := true, recurses := true, apart := false, narrowed := true }
def RowsPutUptoSaid : Prop := rowsPutUptoRow.holds Try.pinned (OpenSpec.upto rowsPutSpec)

/-- 'rflaw2.DeedTells', WHERE WHAT IT READS IS OF BULK AT MOST 1048576: true; the input reads as it did. -/
def deedTellsUptoRow : OpenClaim := { program := "ytkbgknlndcmgbaa", sum := "c874ff617ac7848710aab40e33df610c99bcb688e0852fff1eb4d5a0e6b08430", func := "rankandfile/rflaw2.DeedTells", spec := "deedTells", unfollowed := true, recurses := true, apart := false, narrowed := true }
def DeedTellsUptoSaid : Prop := deedTellsUptoRow.holds Try.pinned (OpenSpec.upto deedTellsSpec)

/-- 'rflaw2.DeedNamed', WHERE WHAT IT READS IS OF BULK AT MOST 1048576: true; the input reads as it did. -/
def deedNamedUptoRow : OpenClaim := { program := "ytkbgknlndcmgbaa", sum := "c874ff617ac7848710aab40e33df610c99bcb688e0852fff1eb4d5a0e6b08430", func := "rankandfile/rflaw2.DeedNamed", spec := "deedNamed", unfollowed := true, recurses := true, apart := false, narrowed := true }
def DeedNamedUptoSaid : Prop := deedNamedUptoRow.holds Try.pinned (OpenSpec.upto deedNamedSpec)

end Rows
end Go.Proofs.Ytkbgknlndcmgbaa
