/-
  Whether two deeds are the same, by the program.
-/
import Derived.Test.YtfdliblikkpjiabDeedOwn
namespace Go.Proofs.Ytfdliblikkpjiab
open Go.RowKit

end Go.Proofs.Ytfdliblikkpjiab
