/-
  Whether two deeds are the same, by the program.
-/
import Derived.Test.YtfchjhdgnibnnabDeedOwn
namespace Go.Proofs.Ytfchjhdgnibnnab
open Go.RowKit

end Go.Proofs.Ytfchjhdgnibnnab
