/-
  What it means that a function of the program's own is entered when it is called by a value.
-/
import Derived.Test.YtfchjhdgnibnnabChecked
import Derived.WalkKit
namespace Go.Proofs.Ytfchjhdgnibnnab
open Go.RowKit

/-- A function of the program's own, that is entered. -/
def Entered (F : Nat) : Prop := ∀ (args : Array Value) (w : World), (callFunc F args).run Try.prog w = .ok (.enter F args) w
end Go.Proofs.Ytfchjhdgnibnnab
