/-
  find of the program: the place of a key in rows that rise, and whether it is there; so around and Get.
-/
import Derived.Test.YtfchjhdgnibnnacKey
import Derived.Test.YtfchjhdgnibnnacSeg
import Derived.BigQuiet
import Derived.Deep.QuietTactic
namespace Go.Proofs.Ytfchjhdgnibnnac
open Go.RowKit

theorem cell_box (w : World) (v : Value) (t : TypeId) : (w.alloc (.cells #[v] t)).cell? ⟨w.heap.size, 0, none⟩ = some v := by
  rw [World.cell?_alloc_at _ _ _ _ (by simp)]; rfl
theorem cell_past {w : World} {b x : Nat} {v : Value} (o : Obj) (h : w.cell? ⟨b, x, none⟩ = some v) : (w.alloc o).cell? ⟨b, x, none⟩ = some v := by
  have hb := World.block_lt_of_cell? _ _ h
  rw [World.cell?_alloc_past _ _ _ hb]; exact h
theorem cell_drewN {w : World} {a : Addr} {v : Value} (q : Nat) (h : w.cell? a = some v) : (w.drewN q).cell? a = some v := h

end Go.Proofs.Ytfchjhdgnibnnac
