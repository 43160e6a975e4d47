/-
  Whether two deeds are the same, by the program.
  How the program does a right deed.
-/
import Derived.Test.YtdnafpenljdinadDeedOwn
import Derived.Test.YtdnafpenljdinadDeedTurn
import Derived.Deep.RegionWith
import Derived.Deep.QuietTactic
import Derived.BigQuiet
namespace Go.Proofs.Ytdnafpenljdinad
open Go.RowKit

end Go.Proofs.Ytdnafpenljdinad

namespace Go.Proofs.Ytdnafpenljdinad
open Go.RowKit

/-- Four registers in a block. -/
structure Regs (w : World) (s : Nat) (r : Nat → Int) : Prop where
  at_ : ∀ i, i < 4 → w.cell? ⟨s, i, none⟩ = some (.int .i64 (r i))
  free : ∀ i, i < 4 → w.frozen? ⟨s, i, none⟩ = false
theorem Regs.lt {w : World} {s : Nat} {r : Nat → Int} (h : Regs w s r) : s < w.heap.size := by simpa using World.block_lt_of_cell? _ _ (h.at_ 0 (by decide))
theorem Regs.deep {w w' : World} {s B : Nat} {r : Nat → Int} (h : Regs w s r) (hb : Below B w w') (hB : s < B) : Regs w' s r :=
  ⟨fun i hi => by rw [hb.cell (p := ⟨s, i, none⟩) hB]; exact h.at_ i hi, fun i hi => by rw [hb.frozen (p := ⟨s, i, none⟩) hB]; exact h.free i hi⟩
theorem Regs.set {w : World} {s : Nat} {r : Nat → Int} (h : Regs w s r) {a : Nat} (ha : a < 4) (x : Int) : Regs (w.setCell ⟨s, a, none⟩ (.int .i64 x)) s (setR r a x) := by
  refine ⟨fun i hi => ?_, fun i hi => by rw [World.frozen?_setCell]; exact h.free i hi⟩
  by_cases e : i = a
  · subst e
    rw [World.cell?_setCell_same _ _ _ (h.at_ i hi)]; simp [setR]
  · rw [World.cell?_setCell_other _ _ _ _ (fun x => e (by cases x; rfl)), h.at_ i hi]; simp [setR, e]
theorem Regs.alloc {w : World} {s : Nat} {r : Nat → Int} (h : Regs w s r) (o : Obj) : Regs (w.alloc o) s r := h.deep (B := w.heap.size) ((Below.refl _ _).alloc (Nat.le_refl _) _) h.lt

/-- What the loop of a deed keeps: s is where the registers are; behind them the map, and the place of the map. -/
structure Keeps (w wr : World) (q : Nat) (r : Nat → Int) (m : Made) : Prop where
  regs : Regs wr w.heap.size r
  place : wr.cell? ⟨w.heap.size + 2, 0, none⟩ = some (.map (some (w.heap.size + 1)))
  map : MapIs wr (w.heap.size + 1) q (verMap m)
  old : Below w.heap.size w wr
theorem Keeps.deep {w wr wr' : World} {q : Nat} {r : Nat → Int} {m : Made} (h : Keeps w wr q r m) (hb : Below wr.heap.size wr wr') : Keeps w wr' q r m :=
  ⟨h.regs.deep hb h.regs.lt, kept_cell hb h.place, h.map.deep hb, h.old.trans (hb.mono (Nat.le_of_lt h.regs.lt))⟩
theorem Keeps.set {w wr : World} {q : Nat} {r : Nat → Int} {m : Made} (h : Keeps w wr q r m) {a : Nat} (ha : a < 4) (x : Int) : Keeps w (wr.setCell ⟨w.heap.size, a, none⟩ (.int .i64 x)) q (setR r a x) m :=
  ⟨h.regs.set ha x, by rw [World.cell?_setCell_other _ _ _ _ (fun e => by have := congrArg Addr.block e; simp at this)]; exact h.place, h.map.setCell (by simp) _, h.old.setCell (Nat.le_refl _) _⟩
theorem Keeps.put {w wr w2 : World} {q : Nat} {r : Nat → Int} {m : Made} {k : ByteArray} {o : Option Int} (h : Keeps w wr q r m) (hm : MapIs w2 (w.heap.size + 1) (q + 1) (fun j => if j = k then some (verVal o) else verMap m j)) (hg : wr.grownBy w2 (some (w.heap.size + 1))) : Keeps w w2 (q + 1) r (setM m k o) := by
  have hlt := h.regs.lt
  have hpl : w.heap.size + 2 < wr.heap.size := by simpa using World.block_lt_of_cell? _ _ h.place
  have hb0 := hg.block w.heap.size (by omega) (by simp)
  have hb2 := hg.block (w.heap.size + 2) (by omega) (by simp)
  refine ⟨⟨fun i hi => ?_, fun i hi => ?_⟩, ?_, ?_, ⟨hg.os.trans h.old.os, hg.tape.trans h.old.tape, hg.output.trans h.old.output, Nat.le_trans h.old.size hg.size, fun j hj => (hg.block j (by omega) (by simp; omega)).trans (h.old.block j hj)⟩⟩
  · rw [World.cell?_of_block (w := wr) (a := ⟨w.heap.size, i, none⟩) hb0]; exact h.regs.at_ i hi
  · rw [World.frozen?_of_block (w := wr) (a := ⟨w.heap.size, i, none⟩) hb0]; exact h.regs.free i hi
  · rw [World.cell?_of_block (w := wr) (a := ⟨w.heap.size + 2, 0, none⟩) hb2]; exact h.place
  · rw [verMap_set]; exact hm
theorem result_cell {w1 wr : World} {b : Nat} (hb : Below w1.heap.size w1 wr) (h : ∀ j, j < 5 → w1.frozen? ⟨b, j, none⟩ = false ∧ ∃ u, w1.cell? ⟨b, j, none⟩ = some u) (j : Nat) (hj : j < 5) : wr.frozen? ⟨b, j, none⟩ = false ∧ ∃ u, wr.cell? ⟨b, j, none⟩ = some u := by
  obtain ⟨h1, u, h2⟩ := h j hj
  have hlt : b < w1.heap.size := by simpa using World.block_lt_of_cell? _ _ h2
  rw [hb.frozen (p := ⟨b, j, none⟩) hlt, hb.cell (p := ⟨b, j, none⟩) hlt]
  exact ⟨h1, u, h2⟩
/-- Five cells written one behind the other. -/
def five (w : World) (b : Nat) (f : Bool) (x0 x1 x2 x3 : Int) : World :=
  ((((w.setCell ⟨b, 0, none⟩ (.bool f)).setCell ⟨b, 1, none⟩ (.int .i64 x0)).setCell ⟨b, 2, none⟩ (.int .i64 x1)).setCell ⟨b, 3, none⟩ (.int .i64 x2)).setCell ⟨b, 4, none⟩ (.int .i64 x3)
theorem set_other {w : World} {b i j : Nat} {u : Value} (h : i ≠ j) : (w.setCell ⟨b, i, none⟩ u).cell? ⟨b, j, none⟩ = w.cell? ⟨b, j, none⟩ := World.cell?_setCell_other _ _ _ _ (fun e => h (by cases e; rfl))
structure Five (w : World) (b : Nat) (f : Bool) (x0 x1 x2 x3 : Int) : Prop where
  c0 : w.cell? ⟨b, 0, none⟩ = some (.bool f)
  c1 : w.cell? ⟨b, 1, none⟩ = some (.int .i64 x0)
  c2 : w.cell? ⟨b, 2, none⟩ = some (.int .i64 x1)
  c3 : w.cell? ⟨b, 3, none⟩ = some (.int .i64 x2)
  c4 : w.cell? ⟨b, 4, none⟩ = some (.int .i64 x3)
theorem five_cells {w : World} {b : Nat} {f : Bool} {x0 x1 x2 x3 : Int} (h : ∀ j, j < 5 → ∃ u, w.cell? ⟨b, j, none⟩ = some u) : Five (five w b f x0 x1 x2 x3) b f x0 x1 x2 x3 := by
  obtain ⟨t0, e0⟩ := h 0 (by decide)
  obtain ⟨t1, e1⟩ := h 1 (by decide)
  obtain ⟨t2, e2⟩ := h 2 (by decide)
  obtain ⟨t3, e3⟩ := h 3 (by decide)
  obtain ⟨t4, e4⟩ := h 4 (by decide)
  unfold five
  refine ⟨?_, ?_, ?_, ?_, ?_⟩
  · rw [set_other (by decide), set_other (by decide), set_other (by decide), set_other (by decide)]
    exact World.cell?_setCell_same _ _ _ e0
  · rw [set_other (by decide), set_other (by decide), set_other (by decide)]
    exact World.cell?_setCell_same _ _ _ (by rw [set_other (by decide)]; exact e1)
  · rw [set_other (by decide), set_other (by decide)]
    exact World.cell?_setCell_same _ _ _ (by rw [set_other (by decide), set_other (by decide)]; exact e2)
  · rw [set_other (by decide)]
    exact World.cell?_setCell_same _ _ _ (by rw [set_other (by decide), set_other (by decide), set_other (by decide)]; exact e3)
  · exact World.cell?_setCell_same _ _ _ (by rw [set_other (by decide), set_other (by decide), set_other (by decide), set_other (by decide)]; exact e4)
theorem five_below {w w' : World} {b B : Nat} (f : Bool) (x0 x1 x2 x3 : Int) (hB : B ≤ b) (h : Below B w w') : Below B w (five w' b f x0 x1 x2 x3) :=
  ((((h.setCell (p := ⟨b, 0, none⟩) hB _).setCell (p := ⟨b, 1, none⟩) hB _).setCell (p := ⟨b, 2, none⟩) hB _).setCell (p := ⟨b, 3, none⟩) hB _).setCell (p := ⟨b, 4, none⟩) hB _
theorem five_lies {w : World} {sz : Nat} {base : Option Addr} {n c b B : Nat} {vs : List Value} {f : Bool} {x0 x1 x2 x3 : Int} (hf : Fresh B base) (hb : b < B) (h : Lies w sz base n c vs) : Lies (five w b f x0 x1 x2 x3) sz base n c vs :=
  ((((h.set hf (p := ⟨b, 0, none⟩) hb _).set hf (p := ⟨b, 1, none⟩) hb _).set hf (p := ⟨b, 2, none⟩) hb _).set hf (p := ⟨b, 3, none⟩) hb _).set hf (p := ⟨b, 4, none⟩) hb _
theorem result_box {wr : World} {b n : Nat} {o : Obj} (h : ∀ j, j < 5 → wr.frozen? ⟨b, j, none⟩ = false ∧ ∃ u, wr.cell? ⟨b, j, none⟩ = some u) : ∀ j, j < 5 → ∃ u, ((wr.alloc o).drewN n).cell? ⟨b, j, none⟩ = some u := fun j hj => by
  obtain ⟨_, u, h2⟩ := h j hj
  exact ⟨u, cell_drewN n (cell_past o h2)⟩
theorem grow_box {w : World} {o : Obj} (n : Nat) : Below w.heap.size w ((w.alloc o).drewN n) := below_drewN ((Below.refl _ _).alloc (Nat.le_refl _) _) n
theorem Keeps.start (w : World) (t u : Nat) : Keeps w (((w.alloc (.cells #[.int .i64 0, .int .i64 0, .int .i64 0, .int .i64 0] t)).alloc (.map #[] 0)).alloc (.cells #[.map (some (w.heap.size + 1))] u)) 0 (fun _ => 0) (fun _ => none) := by
  have hreg : Regs (w.alloc (.cells #[.int .i64 0, .int .i64 0, .int .i64 0, .int .i64 0] t)) w.heap.size (fun _ => 0) := by
    refine ⟨fun i hi => ?_, fun i _ => World.frozen?_alloc_at _ _ _ _ rfl⟩
    rw [World.cell?_alloc_at _ _ _ _ rfl]
    have : i = 0 ∨ i = 1 ∨ i = 2 ∨ i = 3 := by omega
    rcases this with rfl | rfl | rfl | rfl <;> rfl
  refine ⟨(hreg.alloc _).alloc _, ?_, ?_, (((Below.refl _ _).alloc (Nat.le_refl _) _).alloc (by simp) _).alloc (by simp; omega) _⟩
  · rw [World.cell?_alloc_at _ _ _ _ (by simp)]; rfl
  · have := (MapIs.made (w.alloc (.cells #[.int .i64 0, .int .i64 0, .int .i64 0, .int .i64 0] t))).alloc (.cells #[.map (some (w.heap.size + 1))] u)
    rw [World.size_alloc] at this
    exact this.ext fun k => rfl


/-- How Run ends. -/
def Ran (w w' : World) (v : ByteArray → Int) (W : List ByteArray) (C : List Ins) (e : Ending) : Prop :=
  ∃ (r : Nat → Int) (m : Made) (f : Bool) (vb : Option Addr) (vn vc : Nat) (kb : Option Addr) (kn kc : Nat), exec v C 0 zeroR zeroM = (r, m, f) ∧
    e = .returned (.tuple #[.agg #[.bool f, .int .i64 (r 0), .int .i64 (r 1), .int .i64 (r 2), .int .i64 (r 3)], .slice vb vn vc, .slice kb kn kc]) ∧
    Lies w' 4 vb vn vc (verCells (if f then [] else vers m W)) ∧ Texts w' kb kn kc (keysOf (if f then [] else vers m W)) ∧ Below w.heap.size w w'

end Go.Proofs.Ytdnafpenljdinad
