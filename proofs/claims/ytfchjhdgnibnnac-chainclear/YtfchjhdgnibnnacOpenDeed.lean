/-
  How an argument that is a deed is read: its three slices lie there.
-/
import Derived.Test.YtfchjhdgnibnnacOpen
import Derived.Test.YtfchjhdgnibnnacDeedInstr
import Derived.Test.YtfchjhdgnibnnacDeedAll
import Derived.SliceStrings
import Derived.Lib.SmallJoins
namespace Go.Proofs.Ytfchjhdgnibnnac
open Go.ChangeShapes Go.WideShapes Go.ChangeAt Go.RowKit Go.Deep Go.Joins

/-- How a datum tells the room of a slice. -/
def Room {H : Type} (d : DataW H) (cap : Nat) : Prop := (d = .nil ∧ cap = 0) ∨ ∃ elems spare : List (DataW H), d = .slice elems spare ∧ elems.length + spare.length = cap

end Go.Proofs.Ytfchjhdgnibnnac
