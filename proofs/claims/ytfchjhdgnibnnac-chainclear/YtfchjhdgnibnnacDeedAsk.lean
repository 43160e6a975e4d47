/-
  How the program asks what a key has: its own doings first, then what it is shown.
-/
import Derived.Test.YtfchjhdgnibnnacDeedAll
import Derived.Test.YtfchjhdgnibnnacMapIs
import Derived.Test.YtfchjhdgnibnnacEnter
import Derived.Defers
import Derived.Recover
namespace Go.Proofs.Ytfchjhdgnibnnac
open Go.RowKit

/-- What a view tells of a key, in whatever world that has grown out of w. -/
def Tells (w : World) (F : Nat) (caps : Array Value) (k : ByteArray) (x : Int) : Prop :=
  ∀ w0, Below w.heap.size w w0 → Calls Try.prog F (#[.string k] ++ caps) w0 fun e w' => (∃ (t : Int) (ok : Bool), e = .returned (.tuple #[.int .i64 t, .bool ok]) ∧ (if ok = true then t else 0) = x) ∧ Below w0.heap.size w0 w'
theorem Tells.below {w w1 : World} {F : Nat} {caps : Array Value} {k : ByteArray} {x : Int} (h : Tells w F caps k x) (hb : Below w.heap.size w w1) : Tells w1 F caps k x := fun w0 h0 => h w0 (below_deep hb h0)

/-- What a key is given, as the program keeps it. -/
def verVal (o : Option Int) : Value := match o with
  | some n => .agg #[.int .i64 0, .bool true, .bool true, .int .i64 n]
  | none => .agg #[.int .i64 0, .bool true, .bool false, .int .i64 0]
def verMap (m : Made) : ByteArray → Option Value := fun k => (m k).map verVal
theorem verMap_set (m : Made) (k : ByteArray) (o : Option Int) : verMap (setM m k o) = fun j => if j = k then some (verVal o) else verMap m j := by
  funext j; unfold verMap setM; split <;> rfl
theorem verZero (w : World) : (zeroValue 28).run Try.prog w = .ok (.agg #[.int .i64 0, .bool false, .bool false, .int .i64 0]) w := by kernel_rfl

end Go.Proofs.Ytfchjhdgnibnnac
