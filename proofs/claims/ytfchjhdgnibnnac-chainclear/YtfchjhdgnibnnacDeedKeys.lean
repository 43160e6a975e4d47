/-
  The program's search among texts, and what it finds wrong with keys.
-/
import Derived.Test.YtfchjhdgnibnnacLies
import Derived.Test.YtfchjhdgnibnnacDeedMath
import Derived.Test.YtfchjhdgnibnnacKey
namespace Go.Proofs.Ytfchjhdgnibnnac
open Go.RowKit

theorem streq_true {a b : ByteArray} (h : a = b) : (a.toList == b.toList) = true := by subst h; simp
theorem streq_false {a b : ByteArray} (h : a ≠ b) : (a.toList == b.toList) = false := by simpa using fun e => h (toList_inj e)

end Go.Proofs.Ytfchjhdgnibnnac
