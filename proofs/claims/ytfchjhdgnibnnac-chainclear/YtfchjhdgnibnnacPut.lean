/-
  Put and Drop of the program, of rows that rise.
-/
import Derived.Test.YtfchjhdgnibnnacConcat
namespace Go.Proofs.Ytfchjhdgnibnnac
open Go.RowKit

theorem cells_one (w : World) (k : ByteArray) (m : Int) (t : TypeId) : Cells (w.alloc (.cells #[.string k, .int .i64 m] t)) w.heap.size 0 [(k, m)] := fun i hi => by
  obtain rfl : i = 0 := by simpa using hi
  refine ⟨?_, ?_⟩ <;> (rw [World.cell?_alloc_at _ _ _ _ (by simp)]; rfl)

/-- Of three things the one with number j. -/
def pick3 {α : Type} (a b c : α) : Nat → α
  | 0 => a
  | 1 => b
  | _ => c

theorem below_new (w : World) (o : Obj) : Below w.heap.size w (w.alloc o) := (Below.refl _ _).alloc (Nat.le_refl _) _

end Go.Proofs.Ytfchjhdgnibnnac
