/-
  What the program finds wrong with a deed as a whole.
-/
import Derived.Test.YtfchjhdgnibnnacDeedInstr
namespace Go.Proofs.Ytfchjhdgnibnnac
open Go.RowKit

/-- Texts are no longer than a text may be. -/
def SmallT (l : List ByteArray) : Prop := ∀ x ∈ l, x.size ≤ maxLen

theorem ne_true {a b : Int} (h : a ≠ b) : (a != b) = true := by simp [h]
theorem ne_false {a b : Int} (h : a = b) : (a != b) = false := by simp [h]

end Go.Proofs.Ytfchjhdgnibnnac
