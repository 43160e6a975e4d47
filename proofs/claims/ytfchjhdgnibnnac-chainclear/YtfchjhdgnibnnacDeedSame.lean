/-
  Whether two deeds are the same, by the program.
-/
import Derived.Test.YtfchjhdgnibnnacDeedOwn
namespace Go.Proofs.Ytfchjhdgnibnnac
open Go.RowKit

end Go.Proofs.Ytfchjhdgnibnnac
