/-
  The document's own WrongRows and Get, walked.
-/
import Derived.Test.YtddmdbjedainoabDoorKey
import Derived.Test.YtddmdbjedainoabDoorAround
import Derived.Test.YtddmdbjedainoabDoorRefMath
namespace Go.Proofs.YtddmdbjedainoabDoor
open Go.RowKit

end Go.Proofs.YtddmdbjedainoabDoor
