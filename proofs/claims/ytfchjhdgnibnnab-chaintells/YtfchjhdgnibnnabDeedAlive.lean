/-
  The closed fact that the statement DeedNamed asks first is so.
-/
import Derived.Test.YtfchjhdgnibnnabDeedSame
import Derived.Test.YtfchjhdgnibnnabDeedRun
namespace Go.Proofs.Ytfchjhdgnibnnab
open Go.RowKit

/-- The keys a and b. -/
def tA : ByteArray := ⟨#[97]⟩
def tB : ByteArray := ⟨#[98]⟩
def tN : ByteArray := ⟨#[]⟩
def aR : List ByteArray := [tA]
def aW : List ByteArray := [tA, tB]
def aC : List Ins := [(1, 0, 0, 0, tA), (2, 1, 0, 5, tN), (3, 0, 1, 0, tN), (6, 0, 0, 0, tA)]

theorem alive_right : wDeed aR aW aC = 0 := by decide
theorem alive_r0 : (exec (fun _ => 2) aC 0 zeroR zeroM).1 0 = 7 := by decide +kernel
theorem alive_f : (exec (fun _ => 2) aC 0 zeroR zeroM).2.2 = false := by decide
theorem alive_vers : vers (exec (fun _ => 2) aC 0 zeroR zeroM).2.1 aW = [(tA, some 7)] := by decide +kernel
theorem lies_new (w : World) (vs : Array Value) (t sz n : Nat) (h : vs.size = n * sz) (hn : n ≤ maxLen) : Lies (w.alloc (.cells vs t)) sz (some ⟨w.heap.size, 0, none⟩) n n vs.toList := by
  refine ⟨by simp [h], ⟨Nat.le_refl _, hn, fun h => by cases h⟩, .inr ⟨_, _, rfl, fun j u hu => ?_⟩⟩
  rw [Nat.zero_add]
  exact box_cell _ _ _ _ _ (by simpa using hu)
theorem grew (w : World) (o : Obj) : Below w.heap.size w (w.alloc o) := (Below.refl _ _).alloc (Nat.le_refl _) _
/-- The world in which the deed lies. -/
def aWorld (w : World) : World := (((w.alloc (.cells #[.string tA] 9)).alloc (.cells #[.string tA, .string tB] 9)).alloc (.cells #[.int .i64 1, .int .i64 0, .int .i64 0, .int .i64 0, .string tA, .int .i64 2, .int .i64 1, .int .i64 0, .int .i64 5, .string tN, .int .i64 3, .int .i64 0, .int .i64 1, .int .i64 0, .string tN, .int .i64 6, .int .i64 0, .int .i64 0, .int .i64 0, .string tA] 73)).alloc (.cells #[.slice (some ⟨w.heap.size, 0, none⟩) 1 1, .slice (some ⟨w.heap.size + 1, 0, none⟩) 2 2, .slice (some ⟨w.heap.size + 1 + 1, 0, none⟩) 4 4] 31)
theorem aWorld_below (w : World) : Below w.heap.size w (aWorld w) := below_deep (below_deep (below_deep (grew _ _) (grew _ _)) (grew _ _)) (grew _ _)
theorem aWorld_deed (w : World) : DeedIn (aWorld w) (some ⟨w.heap.size, 0, none⟩) 1 1 (some ⟨w.heap.size + 1, 0, none⟩) 2 2 (some ⟨w.heap.size + 1 + 1, 0, none⟩) 4 4 aR aW aC := by
  have h1 := lies_new w #[.string tA] 9 1 1 rfl (by unfold maxLen; omega)
  have h2 := lies_new (w.alloc (.cells #[.string tA] 9)) #[.string tA, .string tB] 9 1 2 rfl (by unfold maxLen; omega)
  have h3 := lies_new ((w.alloc (.cells #[.string tA] 9)).alloc (.cells #[.string tA, .string tB] 9)) #[.int .i64 1, .int .i64 0, .int .i64 0, .int .i64 0, .string tA, .int .i64 2, .int .i64 1, .int .i64 0, .int .i64 5, .string tN, .int .i64 3, .int .i64 0, .int .i64 1, .int .i64 0, .string tN, .int .i64 6, .int .i64 0, .int .i64 0, .int .i64 0, .string tA] 73 5 4 rfl (by unfold maxLen; omega)
  rw [World.size_alloc] at h2
  rw [World.size_alloc, World.size_alloc] at h3
  exact ⟨h1.below (by decide) (below_deep (below_deep (grew _ _) (grew _ _)) (grew _ _)), h2.below (by decide) (below_deep (grew _ _) (grew _ _)), h3.below (by decide) (grew _ _)⟩

theorem aWorld_cell (w : World) (j : Nat) (v : Value) (h : (#[Value.slice (some ⟨w.heap.size, 0, none⟩) 1 1, .slice (some ⟨w.heap.size + 1, 0, none⟩) 2 2, .slice (some ⟨w.heap.size + 1 + 1, 0, none⟩) 4 4])[j]? = some v) : (aWorld w).cell? ⟨w.heap.size + 1 + 1 + 1, j, none⟩ = some v := by
  have := box_cell (((w.alloc (.cells #[.string tA] 9)).alloc (.cells #[.string tA, .string tB] 9)).alloc (.cells #[.int .i64 1, .int .i64 0, .int .i64 0, .int .i64 0, .string tA, .int .i64 2, .int .i64 1, .int .i64 0, .int .i64 5, .string tN, .int .i64 3, .int .i64 0, .int .i64 1, .int .i64 0, .string tN, .int .i64 6, .int .i64 0, .int .i64 0, .int .i64 0, .string tA] 73)) _ 31 j v h
  rw [World.size_alloc, World.size_alloc, World.size_alloc] at this
  exact this
theorem held11 {a b c d e f g h i j k : Prop} (x : a ∧ b ∧ c ∧ d ∧ e ∧ f ∧ g ∧ h ∧ i ∧ j ∧ k) : k := x.2.2.2.2.2.2.2.2.2.2
theorem ten_keep {A w1 w2 : World} {b0 o0 b1 o1 b2 o2 b3 o3 b4 o4 b5 o5 b6 o6 b7 o7 b8 o8 b9 o9 : Nat} {x0 x1 x2 x3 x4 x5 x6 x7 x8 x9 : Value} (h : w1.cell? ⟨b0, o0, none⟩ = some x0 ∧ w1.cell? ⟨b1, o1, none⟩ = some x1 ∧ w1.cell? ⟨b2, o2, none⟩ = some x2 ∧ w1.cell? ⟨b3, o3, none⟩ = some x3 ∧ w1.cell? ⟨b4, o4, none⟩ = some x4 ∧ w1.cell? ⟨b5, o5, none⟩ = some x5 ∧ w1.cell? ⟨b6, o6, none⟩ = some x6 ∧ w1.cell? ⟨b7, o7, none⟩ = some x7 ∧ w1.cell? ⟨b8, o8, none⟩ = some x8 ∧ w1.cell? ⟨b9, o9, none⟩ = some x9 ∧ Below A.heap.size A w1) (hb : Below w1.heap.size w1 w2) : w2.cell? ⟨b0, o0, none⟩ = some x0 ∧ w2.cell? ⟨b1, o1, none⟩ = some x1 ∧ w2.cell? ⟨b2, o2, none⟩ = some x2 ∧ w2.cell? ⟨b3, o3, none⟩ = some x3 ∧ w2.cell? ⟨b4, o4, none⟩ = some x4 ∧ w2.cell? ⟨b5, o5, none⟩ = some x5 ∧ w2.cell? ⟨b6, o6, none⟩ = some x6 ∧ w2.cell? ⟨b7, o7, none⟩ = some x7 ∧ w2.cell? ⟨b8, o8, none⟩ = some x8 ∧ w2.cell? ⟨b9, o9, none⟩ = some x9 ∧ Below A.heap.size A w2 := by
  obtain ⟨h0, h1, h2, h3, h4, h5, h6, h7, h8, h9, hz⟩ := h
  exact ⟨kept_cell hb h0, kept_cell hb h1, kept_cell hb h2, kept_cell hb h3, kept_cell hb h4, kept_cell hb h5, kept_cell hb h6, kept_cell hb h7, kept_cell hb h8, kept_cell hb h9, below_deep hz hb⟩
end Go.Proofs.Ytfchjhdgnibnnab
