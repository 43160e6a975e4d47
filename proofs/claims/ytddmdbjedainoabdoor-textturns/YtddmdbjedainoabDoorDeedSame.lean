/-
  Whether two deeds are the same, by the program.
-/
import Derived.Test.YtddmdbjedainoabDoorDeedOwn
namespace Go.Proofs.YtddmdbjedainoabDoor
open Go.RowKit

end Go.Proofs.YtddmdbjedainoabDoor
