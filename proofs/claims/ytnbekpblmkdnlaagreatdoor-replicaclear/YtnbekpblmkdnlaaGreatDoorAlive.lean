/-
  The closed fact that the statements of chapter 1 ask first is so.
-/
import Derived.Test.YtnbekpblmkdnlaaGreatDoorRefPut
import Derived.Test.YtnbekpblmkdnlaaGreatDoorWrong
namespace Go.Proofs.YtnbekpblmkdnlaaGreatDoor
open Go.RowKit

end Go.Proofs.YtnbekpblmkdnlaaGreatDoor
