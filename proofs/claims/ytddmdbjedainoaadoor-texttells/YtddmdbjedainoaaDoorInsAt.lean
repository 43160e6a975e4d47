/-
  An instruction in a block of its own: its five places, kept, and turned one by one.
-/
import Derived.Test.YtddmdbjedainoaaDoorLibCalls
namespace Go.Proofs.YtddmdbjedainoaaDoor
open Go.RowKit

structure InsAt (w : World) (b : Nat) (i : Ins) : Prop where
  c0 : w.cell? ⟨b, 0, none⟩ = some (.int .i64 i.kind)
  c1 : w.cell? ⟨b, 1, none⟩ = some (.int .i64 i.a)
  c2 : w.cell? ⟨b, 2, none⟩ = some (.int .i64 i.b)
  c3 : w.cell? ⟨b, 3, none⟩ = some (.int .i64 i.n)
  c4 : w.cell? ⟨b, 4, none⟩ = some (.string i.key)
  free : ∀ j, w.frozen? ⟨b, j, none⟩ = false
theorem InsAt.lt {w : World} {b : Nat} {i : Ins} (h : InsAt w b i) : b < w.heap.size := World.block_lt_of_cell? _ _ h.c0
theorem InsAt.below {w w' : World} {b : Nat} {i : Ins} (h : InsAt w b i) (hb : Below w.heap.size w w') : InsAt w' b i :=
  ⟨kept_cell hb h.c0, kept_cell hb h.c1, kept_cell hb h.c2, kept_cell hb h.c3, kept_cell hb h.c4, fun j => kept_free hb ⟨h.lt, h.free j⟩⟩
theorem free_set {w : World} {a p : Addr} {v : Value} : (w.setCell p v).frozen? a = w.frozen? a := World.frozen?_setCell _ _ _ _
theorem InsAt.far {w : World} {b b' k : Nat} {i : Ins} (h : InsAt w b i) (hne : b' ≠ b) (v : Value) : InsAt (w.setCell ⟨b', k, none⟩ v) b i :=
  ⟨by rw [World.cell?_setCell_far _ _ _ _ hne]; exact h.c0, by rw [World.cell?_setCell_far _ _ _ _ hne]; exact h.c1, by rw [World.cell?_setCell_far _ _ _ _ hne]; exact h.c2, by rw [World.cell?_setCell_far _ _ _ _ hne]; exact h.c3, by rw [World.cell?_setCell_far _ _ _ _ hne]; exact h.c4, fun j => by rw [free_set]; exact h.free j⟩
theorem InsAt.put0 {w : World} {b : Nat} {i : Ins} (h : InsAt w b i) (x : Int) : InsAt (w.setCell ⟨b, 0, none⟩ (.int .i64 x)) b (x, i.a, i.b, i.n, i.key) :=
  ⟨World.cell?_setCell_same _ _ _ h.c0, by rw [set_off (by decide)]; exact h.c1, by rw [set_off (by decide)]; exact h.c2, by rw [set_off (by decide)]; exact h.c3, by rw [set_off (by decide)]; exact h.c4, fun j => by rw [free_set]; exact h.free j⟩
theorem InsAt.put1 {w : World} {b : Nat} {i : Ins} (h : InsAt w b i) (x : Int) : InsAt (w.setCell ⟨b, 1, none⟩ (.int .i64 x)) b (i.kind, x, i.b, i.n, i.key) :=
  ⟨by rw [set_off (by decide)]; exact h.c0, World.cell?_setCell_same _ _ _ h.c1, by rw [set_off (by decide)]; exact h.c2, by rw [set_off (by decide)]; exact h.c3, by rw [set_off (by decide)]; exact h.c4, fun j => by rw [free_set]; exact h.free j⟩
theorem InsAt.put2 {w : World} {b : Nat} {i : Ins} (h : InsAt w b i) (x : Int) : InsAt (w.setCell ⟨b, 2, none⟩ (.int .i64 x)) b (i.kind, i.a, x, i.n, i.key) :=
  ⟨by rw [set_off (by decide)]; exact h.c0, by rw [set_off (by decide)]; exact h.c1, World.cell?_setCell_same _ _ _ h.c2, by rw [set_off (by decide)]; exact h.c3, by rw [set_off (by decide)]; exact h.c4, fun j => by rw [free_set]; exact h.free j⟩
theorem InsAt.put3 {w : World} {b : Nat} {i : Ins} (h : InsAt w b i) (x : Int) : InsAt (w.setCell ⟨b, 3, none⟩ (.int .i64 x)) b (i.kind, i.a, i.b, x, i.key) :=
  ⟨by rw [set_off (by decide)]; exact h.c0, by rw [set_off (by decide)]; exact h.c1, by rw [set_off (by decide)]; exact h.c2, World.cell?_setCell_same _ _ _ h.c3, by rw [set_off (by decide)]; exact h.c4, fun j => by rw [free_set]; exact h.free j⟩
theorem InsAt.put4 {w : World} {b : Nat} {i : Ins} (h : InsAt w b i) (s : ByteArray) : InsAt (w.setCell ⟨b, 4, none⟩ (.string s)) b (i.kind, i.a, i.b, i.n, s) :=
  ⟨by rw [set_off (by decide)]; exact h.c0, by rw [set_off (by decide)]; exact h.c1, by rw [set_off (by decide)]; exact h.c2, by rw [set_off (by decide)]; exact h.c3, World.cell?_setCell_same _ _ _ h.c4, fun j => by rw [free_set]; exact h.free j⟩
/-- All five places at once. -/
def setFive (w : World) (b : Nat) (j : Ins) : World := ((((w.setCell ⟨b, 0, none⟩ (.int .i64 j.kind)).setCell ⟨b, 1, none⟩ (.int .i64 j.a)).setCell ⟨b, 2, none⟩ (.int .i64 j.b)).setCell ⟨b, 3, none⟩ (.int .i64 j.n)).setCell ⟨b, 4, none⟩ (.string j.key)
theorem InsAt.all {w : World} {b : Nat} {i : Ins} (h : InsAt w b i) (j : Ins) : InsAt (setFive w b j) b j := ((((h.put0 j.kind).put1 j.a).put2 j.b).put3 j.n).put4 j.key
theorem below_five {w0 w : World} (h : Below w0.heap.size w0 w) {b : Nat} (hb : w0.heap.size ≤ b) (j : Ins) : Below w0.heap.size w0 (setFive w b j) :=
  ((((h.setCell (p := ⟨b, 0, none⟩) hb _).setCell (p := ⟨b, 1, none⟩) hb _).setCell (p := ⟨b, 2, none⟩) hb _).setCell (p := ⟨b, 3, none⟩) hb _).setCell (p := ⟨b, 4, none⟩) hb _
theorem five_new (w : World) (i : Ins) (t : TypeId) : InsAt (w.alloc (.cells #[.int .i64 i.kind, .int .i64 i.a, .int .i64 i.b, .int .i64 i.n, .string i.key] t)) w.heap.size i :=
  ⟨box_cell _ _ _ _ _ rfl, box_cell _ _ _ _ _ rfl, box_cell _ _ _ _ _ rfl, box_cell _ _ _ _ _ rfl, box_cell _ _ _ _ _ rfl, fun _ => World.frozen?_alloc_at _ _ _ _ rfl⟩
end Go.Proofs.YtddmdbjedainoaaDoor
