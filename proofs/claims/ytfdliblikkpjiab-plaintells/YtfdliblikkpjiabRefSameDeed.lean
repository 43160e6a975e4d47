/-
  Whether two deeds are the same, by the document's answer; the view that the statement DeedTells hands to a deed.
-/
import Derived.Test.YtfdliblikkpjiabNamedKeep
namespace Go.Proofs.Ytfdliblikkpjiab
open Go.RowKit

end Go.Proofs.Ytfdliblikkpjiab
