/-
  What the package-level variables hold that a deed's way to its text and back meets, and that whatever leaves old memory alone leaves them so.
-/
import Derived.Test.YtddmdbjedainoabDoorFillMath
import Derived.Test.YtddmdbjedainoabDoorDeedAll
import Derived.Lib.LaidTab
import Derived.Lib.ItoaMem
namespace Go.Proofs.YtddmdbjedainoabDoor
open Go.RowKit

structure Ground (w : World) : Prop where
  shape : ∀ k, k < 10 → w.cell? ⟨0, k, none⟩ = some (.string (ofT (shapeT k)))
  most : ∃ m, w.cell? ⟨1, 0, none⟩ = some (.int .i64 m)
  syn : ∃ tp p, w.var? Tryd.prog "strconv.ErrSyntax" = some #[.iface tp p]
  rng : ∃ tp p, w.var? Tryd.prog "strconv.ErrRange" = some #[.iface tp p]
  tab : Lib.TabIs Tryd.prog w "internal/strconv.uint64pow10" .u64 Lib.pow10Tab

theorem var_below {P : Program} {w w' : World} {name : String} {cs : Array Value} (h : w.var? P name = some cs) (hb : Below w.heap.size w w') : w'.var? P name = some cs := by
  unfold World.var? at h ⊢
  cases hg : P.globalNamed name with
  | none => rw [hg] at h; cases h
  | some g =>
    rw [hg] at h
    simp only [Option.bind_some] at h ⊢
    have hlt : g < w.heap.size := by
      by_cases hl : g < w.heap.size
      · exact hl
      · rw [Array.getElem?_eq_none (by omega)] at h; cases h
    rw [hb.block g hlt]; exact h
theorem Ground.below {w w' : World} (h : Ground w) (hb : Below w.heap.size w w') : Ground w' := by
  refine ⟨fun k hk => kept_cell hb (h.shape k hk), ?_, ?_, ?_, ?_⟩
  · obtain ⟨m, hm⟩ := h.most; exact ⟨m, kept_cell hb hm⟩
  · obtain ⟨t, p, hm⟩ := h.syn; exact ⟨t, p, var_below hm hb⟩
  · obtain ⟨t, p, hm⟩ := h.rng; exact ⟨t, p, var_below hm hb⟩
  · exact var_below h.tab hb
end Go.Proofs.YtddmdbjedainoabDoor
