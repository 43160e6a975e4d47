/-
  Wrong of the program tells the first thing that is wrong with any rows.
-/
import Derived.Test.YtnbekpblmkdnlaaGreatDoorAround
import Derived.BigQuiet
import Derived.Deep.QuietTactic
namespace Go.Proofs.YtnbekpblmkdnlaaGreatDoor
open Go.RowKit

end Go.Proofs.YtnbekpblmkdnlaaGreatDoor
