/-
  Whether two deeds are the same, by the program.
  How the program does a right deed.
  The closed fact that the statement DeedNamed asks first is so.
  The document's own WrongRows and Get, walked.
-/
import Derived.Test.YtdnafpenljdinadDoorDeedOwn
import Derived.Test.YtdnafpenljdinadDoorDeedEq
import Derived.Deep.RegionWith
import Derived.Deep.QuietTactic
import Derived.BigQuiet
import Derived.Test.YtdnafpenljdinadDoorAround
import Derived.Test.YtdnafpenljdinadDoorDoMath
namespace Go.Proofs.YtdnafpenljdinadDoor
open Go.RowKit

end Go.Proofs.YtdnafpenljdinadDoor

namespace Go.Proofs.YtdnafpenljdinadDoor
open Go.RowKit

/-- Four registers in a block. -/
structure Regs (w : World) (s : Nat) (r : Nat → Int) : Prop where
  at_ : ∀ i, i < 4 → w.cell? ⟨s, i, none⟩ = some (.int .i64 (r i))
  free : ∀ i, i < 4 → w.frozen? ⟨s, i, none⟩ = false
theorem Regs.lt {w : World} {s : Nat} {r : Nat → Int} (h : Regs w s r) : s < w.heap.size := by simpa using World.block_lt_of_cell? _ _ (h.at_ 0 (by decide))
theorem Regs.deep {w w' : World} {s B : Nat} {r : Nat → Int} (h : Regs w s r) (hb : Below B w w') (hB : s < B) : Regs w' s r :=
  ⟨fun i hi => by rw [hb.cell (p := ⟨s, i, none⟩) hB]; exact h.at_ i hi, fun i hi => by rw [hb.frozen (p := ⟨s, i, none⟩) hB]; exact h.free i hi⟩
theorem Regs.set {w : World} {s : Nat} {r : Nat → Int} (h : Regs w s r) {a : Nat} (ha : a < 4) (x : Int) : Regs (w.setCell ⟨s, a, none⟩ (.int .i64 x)) s (setR r a x) := by
  refine ⟨fun i hi => ?_, fun i hi => by rw [World.frozen?_setCell]; exact h.free i hi⟩
  by_cases e : i = a
  · subst e
    rw [World.cell?_setCell_same _ _ _ (h.at_ i hi)]; simp [setR]
  · rw [World.cell?_setCell_other _ _ _ _ (fun x => e (by cases x; rfl)), h.at_ i hi]; simp [setR, e]
theorem Regs.alloc {w : World} {s : Nat} {r : Nat → Int} (h : Regs w s r) (o : Obj) : Regs (w.alloc o) s r := h.deep (B := w.heap.size) ((Below.refl _ _).alloc (Nat.le_refl _) _) h.lt

/-- What the loop of a deed keeps: s is where the registers are; behind them the map, and the place of the map. -/
structure Keeps (w wr : World) (q : Nat) (r : Nat → Int) (m : Made) : Prop where
  regs : Regs wr w.heap.size r
  place : wr.cell? ⟨w.heap.size + 2, 0, none⟩ = some (.map (some (w.heap.size + 1)))
  map : MapIs wr (w.heap.size + 1) q (verMap m)
  old : Below w.heap.size w wr
theorem Keeps.deep {w wr wr' : World} {q : Nat} {r : Nat → Int} {m : Made} (h : Keeps w wr q r m) (hb : Below wr.heap.size wr wr') : Keeps w wr' q r m :=
  ⟨h.regs.deep hb h.regs.lt, kept_cell hb h.place, h.map.deep hb, h.old.trans (hb.mono (Nat.le_of_lt h.regs.lt))⟩
theorem Keeps.set {w wr : World} {q : Nat} {r : Nat → Int} {m : Made} (h : Keeps w wr q r m) {a : Nat} (ha : a < 4) (x : Int) : Keeps w (wr.setCell ⟨w.heap.size, a, none⟩ (.int .i64 x)) q (setR r a x) m :=
  ⟨h.regs.set ha x, by rw [World.cell?_setCell_other _ _ _ _ (fun e => by have := congrArg Addr.block e; simp at this)]; exact h.place, h.map.setCell (by simp) _, h.old.setCell (Nat.le_refl _) _⟩
theorem Keeps.put {w wr w2 : World} {q : Nat} {r : Nat → Int} {m : Made} {k : ByteArray} {o : Option Int} (h : Keeps w wr q r m) (hm : MapIs w2 (w.heap.size + 1) (q + 1) (fun j => if j = k then some (verVal o) else verMap m j)) (hg : wr.grownBy w2 (some (w.heap.size + 1))) : Keeps w w2 (q + 1) r (setM m k o) := by
  have hlt := h.regs.lt
  have hpl : w.heap.size + 2 < wr.heap.size := by simpa using World.block_lt_of_cell? _ _ h.place
  have hb0 := hg.block w.heap.size (by omega) (by simp)
  have hb2 := hg.block (w.heap.size + 2) (by omega) (by simp)
  refine ⟨⟨fun i hi => ?_, fun i hi => ?_⟩, ?_, ?_, ⟨hg.os.trans h.old.os, hg.tape.trans h.old.tape, hg.output.trans h.old.output, Nat.le_trans h.old.size hg.size, fun j hj => (hg.block j (by omega) (by simp; omega)).trans (h.old.block j hj)⟩⟩
  · rw [World.cell?_of_block (w := wr) (a := ⟨w.heap.size, i, none⟩) hb0]; exact h.regs.at_ i hi
  · rw [World.frozen?_of_block (w := wr) (a := ⟨w.heap.size, i, none⟩) hb0]; exact h.regs.free i hi
  · rw [World.cell?_of_block (w := wr) (a := ⟨w.heap.size + 2, 0, none⟩) hb2]; exact h.place
  · rw [verMap_set]; exact hm
theorem result_cell {w1 wr : World} {b : Nat} (hb : Below w1.heap.size w1 wr) (h : ∀ j, j < 5 → w1.frozen? ⟨b, j, none⟩ = false ∧ ∃ u, w1.cell? ⟨b, j, none⟩ = some u) (j : Nat) (hj : j < 5) : wr.frozen? ⟨b, j, none⟩ = false ∧ ∃ u, wr.cell? ⟨b, j, none⟩ = some u := by
  obtain ⟨h1, u, h2⟩ := h j hj
  have hlt : b < w1.heap.size := by simpa using World.block_lt_of_cell? _ _ h2
  rw [hb.frozen (p := ⟨b, j, none⟩) hlt, hb.cell (p := ⟨b, j, none⟩) hlt]
  exact ⟨h1, u, h2⟩
/-- Five cells written one behind the other. -/
def five (w : World) (b : Nat) (f : Bool) (x0 x1 x2 x3 : Int) : World :=
  ((((w.setCell ⟨b, 0, none⟩ (.bool f)).setCell ⟨b, 1, none⟩ (.int .i64 x0)).setCell ⟨b, 2, none⟩ (.int .i64 x1)).setCell ⟨b, 3, none⟩ (.int .i64 x2)).setCell ⟨b, 4, none⟩ (.int .i64 x3)
theorem set_other {w : World} {b i j : Nat} {u : Value} (h : i ≠ j) : (w.setCell ⟨b, i, none⟩ u).cell? ⟨b, j, none⟩ = w.cell? ⟨b, j, none⟩ := World.cell?_setCell_other _ _ _ _ (fun e => h (by cases e; rfl))
structure Five (w : World) (b : Nat) (f : Bool) (x0 x1 x2 x3 : Int) : Prop where
  c0 : w.cell? ⟨b, 0, none⟩ = some (.bool f)
  c1 : w.cell? ⟨b, 1, none⟩ = some (.int .i64 x0)
  c2 : w.cell? ⟨b, 2, none⟩ = some (.int .i64 x1)
  c3 : w.cell? ⟨b, 3, none⟩ = some (.int .i64 x2)
  c4 : w.cell? ⟨b, 4, none⟩ = some (.int .i64 x3)
theorem five_cells {w : World} {b : Nat} {f : Bool} {x0 x1 x2 x3 : Int} (h : ∀ j, j < 5 → ∃ u, w.cell? ⟨b, j, none⟩ = some u) : Five (five w b f x0 x1 x2 x3) b f x0 x1 x2 x3 := by
  obtain ⟨t0, e0⟩ := h 0 (by decide)
  obtain ⟨t1, e1⟩ := h 1 (by decide)
  obtain ⟨t2, e2⟩ := h 2 (by decide)
  obtain ⟨t3, e3⟩ := h 3 (by decide)
  obtain ⟨t4, e4⟩ := h 4 (by decide)
  unfold five
  refine ⟨?_, ?_, ?_, ?_, ?_⟩
  · rw [set_other (by decide), set_other (by decide), set_other (by decide), set_other (by decide)]
    exact World.cell?_setCell_same _ _ _ e0
  · rw [set_other (by decide), set_other (by decide), set_other (by decide)]
    exact World.cell?_setCell_same _ _ _ (by rw [set_other (by decide)]; exact e1)
  · rw [set_other (by decide), set_other (by decide)]
    exact World.cell?_setCell_same _ _ _ (by rw [set_other (by decide), set_other (by decide)]; exact e2)
  · rw [set_other (by decide)]
    exact World.cell?_setCell_same _ _ _ (by rw [set_other (by decide), set_other (by decide), set_other (by decide)]; exact e3)
  · exact World.cell?_setCell_same _ _ _ (by rw [set_other (by decide), set_other (by decide), set_other (by decide), set_other (by decide)]; exact e4)
theorem five_below {w w' : World} {b B : Nat} (f : Bool) (x0 x1 x2 x3 : Int) (hB : B ≤ b) (h : Below B w w') : Below B w (five w' b f x0 x1 x2 x3) :=
  ((((h.setCell (p := ⟨b, 0, none⟩) hB _).setCell (p := ⟨b, 1, none⟩) hB _).setCell (p := ⟨b, 2, none⟩) hB _).setCell (p := ⟨b, 3, none⟩) hB _).setCell (p := ⟨b, 4, none⟩) hB _
theorem five_lies {w : World} {sz : Nat} {base : Option Addr} {n c b B : Nat} {vs : List Value} {f : Bool} {x0 x1 x2 x3 : Int} (hf : Fresh B base) (hb : b < B) (h : Lies w sz base n c vs) : Lies (five w b f x0 x1 x2 x3) sz base n c vs :=
  ((((h.set hf (p := ⟨b, 0, none⟩) hb _).set hf (p := ⟨b, 1, none⟩) hb _).set hf (p := ⟨b, 2, none⟩) hb _).set hf (p := ⟨b, 3, none⟩) hb _).set hf (p := ⟨b, 4, none⟩) hb _
theorem result_box {wr : World} {b n : Nat} {o : Obj} (h : ∀ j, j < 5 → wr.frozen? ⟨b, j, none⟩ = false ∧ ∃ u, wr.cell? ⟨b, j, none⟩ = some u) : ∀ j, j < 5 → ∃ u, ((wr.alloc o).drewN n).cell? ⟨b, j, none⟩ = some u := fun j hj => by
  obtain ⟨_, u, h2⟩ := h j hj
  exact ⟨u, cell_drewN n (cell_past o h2)⟩
theorem grow_box {w : World} {o : Obj} (n : Nat) : Below w.heap.size w ((w.alloc o).drewN n) := below_drewN ((Below.refl _ _).alloc (Nat.le_refl _) _) n
theorem Keeps.start (w : World) (t u : Nat) : Keeps w (((w.alloc (.cells #[.int .i64 0, .int .i64 0, .int .i64 0, .int .i64 0] t)).alloc (.map #[] 0)).alloc (.cells #[.map (some (w.heap.size + 1))] u)) 0 (fun _ => 0) (fun _ => none) := by
  have hreg : Regs (w.alloc (.cells #[.int .i64 0, .int .i64 0, .int .i64 0, .int .i64 0] t)) w.heap.size (fun _ => 0) := by
    refine ⟨fun i hi => ?_, fun i _ => World.frozen?_alloc_at _ _ _ _ rfl⟩
    rw [World.cell?_alloc_at _ _ _ _ rfl]
    have : i = 0 ∨ i = 1 ∨ i = 2 ∨ i = 3 := by omega
    rcases this with rfl | rfl | rfl | rfl <;> rfl
  refine ⟨(hreg.alloc _).alloc _, ?_, ?_, (((Below.refl _ _).alloc (Nat.le_refl _) _).alloc (by simp) _).alloc (by simp; omega) _⟩
  · rw [World.cell?_alloc_at _ _ _ _ (by simp)]; rfl
  · have := (MapIs.made (w.alloc (.cells #[.int .i64 0, .int .i64 0, .int .i64 0, .int .i64 0] t))).alloc (.cells #[.map (some (w.heap.size + 1))] u)
    rw [World.size_alloc] at this
    exact this.ext fun k => rfl


/-- How Run ends. -/
def Ran (w w' : World) (v : ByteArray → Int) (W : List ByteArray) (C : List Ins) (e : Ending) : Prop :=
  ∃ (r : Nat → Int) (m : Made) (f : Bool) (vb : Option Addr) (vn vc : Nat) (kb : Option Addr) (kn kc : Nat), exec v C 0 zeroR zeroM = (r, m, f) ∧
    e = .returned (.tuple #[.agg #[.bool f, .int .i64 (r 0), .int .i64 (r 1), .int .i64 (r 2), .int .i64 (r 3)], .slice vb vn vc, .slice kb kn kc]) ∧
    Lies w' 4 vb vn vc (verCells (if f then [] else vers m W)) ∧ Texts w' kb kn kc (keysOf (if f then [] else vers m W)) ∧ Below w.heap.size w w'

end Go.Proofs.YtdnafpenljdinadDoor

namespace Go.Proofs.YtdnafpenljdinadDoor
open Go.RowKit

/-- The keys a and b. -/
def tA : ByteArray := ⟨#[97]⟩
def tB : ByteArray := ⟨#[98]⟩
def tN : ByteArray := ⟨#[]⟩
def aR : List ByteArray := [tA]
def aW : List ByteArray := [tA, tB]
def aC : List Ins := [(1, 0, 0, 0, tA), (2, 1, 0, 5, tN), (3, 0, 1, 0, tN), (6, 0, 0, 0, tA)]

theorem alive_right : wDeed aR aW aC = 0 := by decide
theorem alive_r0 : (exec (fun _ => 2) aC 0 zeroR zeroM).1 0 = 7 := by decide +kernel
theorem alive_f : (exec (fun _ => 2) aC 0 zeroR zeroM).2.2 = false := by decide
theorem alive_vers : vers (exec (fun _ => 2) aC 0 zeroR zeroM).2.1 aW = [(tA, some 7)] := by decide +kernel
theorem lies_new (w : World) (vs : Array Value) (t sz n : Nat) (h : vs.size = n * sz) (hn : n ≤ maxLen) : Lies (w.alloc (.cells vs t)) sz (some ⟨w.heap.size, 0, none⟩) n n vs.toList := by
  refine ⟨by simp [h], ⟨Nat.le_refl _, hn, fun h => by cases h⟩, .inr ⟨_, _, rfl, fun j u hu => ?_⟩⟩
  rw [Nat.zero_add]
  exact box_cell _ _ _ _ _ (by simpa using hu)
theorem grew (w : World) (o : Obj) : Below w.heap.size w (w.alloc o) := (Below.refl _ _).alloc (Nat.le_refl _) _
/-- The world in which the deed lies. -/
def aWorld (w : World) : World := (((w.alloc (.cells #[.string tA] 9)).alloc (.cells #[.string tA, .string tB] 9)).alloc (.cells #[.int .i64 1, .int .i64 0, .int .i64 0, .int .i64 0, .string tA, .int .i64 2, .int .i64 1, .int .i64 0, .int .i64 5, .string tN, .int .i64 3, .int .i64 0, .int .i64 1, .int .i64 0, .string tN, .int .i64 6, .int .i64 0, .int .i64 0, .int .i64 0, .string tA] 87)).alloc (.cells #[.slice (some ⟨w.heap.size, 0, none⟩) 1 1, .slice (some ⟨w.heap.size + 1, 0, none⟩) 2 2, .slice (some ⟨w.heap.size + 1 + 1, 0, none⟩) 4 4] 51)
theorem aWorld_below (w : World) : Below w.heap.size w (aWorld w) := below_deep (below_deep (below_deep (grew _ _) (grew _ _)) (grew _ _)) (grew _ _)
theorem aWorld_deed (w : World) : DeedIn (aWorld w) (some ⟨w.heap.size, 0, none⟩) 1 1 (some ⟨w.heap.size + 1, 0, none⟩) 2 2 (some ⟨w.heap.size + 1 + 1, 0, none⟩) 4 4 aR aW aC := by
  have h1 := lies_new w #[.string tA] 9 1 1 rfl (by unfold maxLen; omega)
  have h2 := lies_new (w.alloc (.cells #[.string tA] 9)) #[.string tA, .string tB] 9 1 2 rfl (by unfold maxLen; omega)
  have h3 := lies_new ((w.alloc (.cells #[.string tA] 9)).alloc (.cells #[.string tA, .string tB] 9)) #[.int .i64 1, .int .i64 0, .int .i64 0, .int .i64 0, .string tA, .int .i64 2, .int .i64 1, .int .i64 0, .int .i64 5, .string tN, .int .i64 3, .int .i64 0, .int .i64 1, .int .i64 0, .string tN, .int .i64 6, .int .i64 0, .int .i64 0, .int .i64 0, .string tA] 87 5 4 rfl (by unfold maxLen; omega)
  rw [World.size_alloc] at h2
  rw [World.size_alloc, World.size_alloc] at h3
  exact ⟨h1.below (by decide) (below_deep (below_deep (grew _ _) (grew _ _)) (grew _ _)), h2.below (by decide) (below_deep (grew _ _) (grew _ _)), h3.below (by decide) (grew _ _)⟩

theorem aWorld_cell (w : World) (j : Nat) (v : Value) (h : (#[Value.slice (some ⟨w.heap.size, 0, none⟩) 1 1, .slice (some ⟨w.heap.size + 1, 0, none⟩) 2 2, .slice (some ⟨w.heap.size + 1 + 1, 0, none⟩) 4 4])[j]? = some v) : (aWorld w).cell? ⟨w.heap.size + 1 + 1 + 1, j, none⟩ = some v := by
  have := box_cell (((w.alloc (.cells #[.string tA] 9)).alloc (.cells #[.string tA, .string tB] 9)).alloc (.cells #[.int .i64 1, .int .i64 0, .int .i64 0, .int .i64 0, .string tA, .int .i64 2, .int .i64 1, .int .i64 0, .int .i64 5, .string tN, .int .i64 3, .int .i64 0, .int .i64 1, .int .i64 0, .string tN, .int .i64 6, .int .i64 0, .int .i64 0, .int .i64 0, .string tA] 87)) _ 51 j v h
  rw [World.size_alloc, World.size_alloc, World.size_alloc] at this
  exact this
theorem held11 {a b c d e f g h i j k : Prop} (x : a ∧ b ∧ c ∧ d ∧ e ∧ f ∧ g ∧ h ∧ i ∧ j ∧ k) : k := x.2.2.2.2.2.2.2.2.2.2
theorem ten_keep {A w1 w2 : World} {b0 o0 b1 o1 b2 o2 b3 o3 b4 o4 b5 o5 b6 o6 b7 o7 b8 o8 b9 o9 : Nat} {x0 x1 x2 x3 x4 x5 x6 x7 x8 x9 : Value} (h : w1.cell? ⟨b0, o0, none⟩ = some x0 ∧ w1.cell? ⟨b1, o1, none⟩ = some x1 ∧ w1.cell? ⟨b2, o2, none⟩ = some x2 ∧ w1.cell? ⟨b3, o3, none⟩ = some x3 ∧ w1.cell? ⟨b4, o4, none⟩ = some x4 ∧ w1.cell? ⟨b5, o5, none⟩ = some x5 ∧ w1.cell? ⟨b6, o6, none⟩ = some x6 ∧ w1.cell? ⟨b7, o7, none⟩ = some x7 ∧ w1.cell? ⟨b8, o8, none⟩ = some x8 ∧ w1.cell? ⟨b9, o9, none⟩ = some x9 ∧ Below A.heap.size A w1) (hb : Below w1.heap.size w1 w2) : w2.cell? ⟨b0, o0, none⟩ = some x0 ∧ w2.cell? ⟨b1, o1, none⟩ = some x1 ∧ w2.cell? ⟨b2, o2, none⟩ = some x2 ∧ w2.cell? ⟨b3, o3, none⟩ = some x3 ∧ w2.cell? ⟨b4, o4, none⟩ = some x4 ∧ w2.cell? ⟨b5, o5, none⟩ = some x5 ∧ w2.cell? ⟨b6, o6, none⟩ = some x6 ∧ w2.cell? ⟨b7, o7, none⟩ = some x7 ∧ w2.cell? ⟨b8, o8, none⟩ = some x8 ∧ w2.cell? ⟨b9, o9, none⟩ = some x9 ∧ Below A.heap.size A w2 := by
  obtain ⟨h0, h1, h2, h3, h4, h5, h6, h7, h8, h9, hz⟩ := h
  exact ⟨kept_cell hb h0, kept_cell hb h1, kept_cell hb h2, kept_cell hb h3, kept_cell hb h4, kept_cell hb h5, kept_cell hb h6, kept_cell hb h7, kept_cell hb h8, kept_cell hb h9, below_deep hz hb⟩
end Go.Proofs.YtdnafpenljdinadDoor

namespace Go.Proofs.YtdnafpenljdinadDoor
open Go.RowKit

set_option maxHeartbeats 1000000 in
theorem refWrong_calls (l : List Row) (base : Option Addr) (c : Nat) (w : World) (hl : l.length ≤ maxLen) (hsm : Small l) (ha : Seg w base l) :
    Calls Tryd.prog 6 #[.slice base l.length c] w fun e w' => e = .returned (.int .i64 (wrong l)) ∧ Below w.heap.size w w' := by
  by_cases h0 : l = []
  · subst h0
    go_enter Tryd.func6, Tryd.ntmps6
    go_wp2
    go_loop [8] (fun i => i = .int .i64 0) (fun _ => 0)
    case atStart => rfl
    case round =>
      obtain rfl := hrel
      go_wp2
      go_ret
      exact ⟨rfl, Below.refl _ _⟩
  rcases ha with h | ⟨b, o, rfl, h1⟩
  · exact absurd h h0
  have HSM := hid hsm
  have hbw : b < w.heap.size := h1.lt (by cases l; exact absurd rfl h0; simp)
  have H1 := hid h1
  obtain ⟨n, hn⟩ : ∃ n, n = l.length := ⟨_, rfl⟩
  unfold maxLen at hl
  rw [← hn] at hl ⊢
  have HN := hid hn
  clear hn hsm h1 h0
  go_enter Tryd.func6, Tryd.ntmps6
  go_wp2
  go_loopw [3, 8] (fun s i wr => ∃ (k : Nat) (kj : ByteArray), k ≤ n ∧ i = .int .i64 k ∧ s = .string kj ∧ Hid (wrongTo l k = 0) ∧ Hid (0 < k → kj = (l.getD (k - 1) default).1) ∧ Below w.heap.size w wr) (fun _ i _ => n - (intOf i).toNat)
  case atStart => exact ⟨0, ⟨#[]⟩, Nat.zero_le _, rfl, rfl, rfl, fun h => absurd h (Nat.lt_irrefl _), Below.refl _ _⟩
  case round =>
    obtain ⟨k, kj, hk, rfl, rfl, HW, HJ, hbel⟩ := hrel
    by_cases hlt : k < n
    · have hkl : k < l.length := by rw [← HN.out]; exact hlt
      obtain ⟨c1, d1⟩ := (H1.out.below hbel hbw) k hkl
      have hz := small_getD HSM.out hkl
      have F7 := hid (wrong_7 hkl HW.out)
      have F2 := hid (wrong_2 hkl HW.out)
      have F3 := hid (wrong_3 hkl HW.out)
      have F0 := hid (wrong_0 (k := k) HW.out)
      have hi : (k : Int) < (n : Int) := by omega
      have hsz := hbel.size
      have hblt : b < wr.heap.size := by omega
      cases k with
      | zero =>
        simp only [Nat.zero_mul, Nat.add_zero] at c1 d1
        generalize ek : (l.getD 0 default).1 = kk at *
        generalize (l.getD 0 default).2 = nn at *
        have HE := hid ek
        clear ek
        cases hkb : keyB kk with
        | false =>
          go_wp2_with fail
          refine (refKey_calls kk _ hz).mono ?_
          rintro e w' ⟨rfl, rfl⟩
          rw [hkb]
          go_wp2
          go_ret
          exact ⟨ret_int (F7.out hkb).symm, hbel.alloc hsz _⟩
        | true =>
          go_wp2_with fail
          refine (refKey_calls kk _ hz).mono ?_
          rintro e w' ⟨rfl, rfl⟩
          rw [hkb]
          go_wp2
          · go_ret
            exact ⟨ret_int (F3.out hkb (fun h => absurd h (by omega)) (by omega)).symm, hbel.alloc hsz _⟩
          · go_roundw
            case rel => exact ⟨1, kk, by omega, rfl, rfl, F0.out hkb (fun h => absurd h (by omega)) (by omega) (by omega), fun _ => HE.out.symm, hbel.alloc hsz _⟩
            case measure => simp [intOf]; omega
          · go_ret
            exact ⟨ret_int (F3.out hkb (fun h => absurd h (by omega)) (by omega)).symm, hbel.alloc hsz _⟩
      | succ j =>
        have HJJ := hid (HJ.out (by omega))
        simp only [Nat.add_sub_cancel] at F2 F3 F0 HJJ
        rw [← HJJ.out] at F2 F3 F0
        generalize ek : (l.getD (j + 1) default).1 = kk at *
        generalize (l.getD (j + 1) default).2 = nn at *
        have HE := hid ek
        clear ek
        clear HJ HJJ
        cases hkb : keyB kk with
        | false =>
          go_wp2_with fail
          refine (refKey_calls kk _ hz).mono ?_
          rintro e w' ⟨rfl, rfl⟩
          rw [hkb]
          go_wp2
          go_ret
          exact ⟨ret_int (F7.out hkb).symm, hbel.alloc hsz _⟩
        | true =>
          rcases less_cases kj kk with hj | hj | hj
          · have t1 : Op.bytesLess kk.toList kj.toList = false := less_asymm hj
            have t2 : (kk.toList == kj.toList) = false := by simpa using fun e => less_ne hj (toList_inj e).symm
            go_wp2_with fail
            refine (refKey_calls kk _ hz).mono ?_
            rintro e w' ⟨rfl, rfl⟩
            rw [hkb]
            go_wp2
            · go_ret
              exact ⟨ret_int (F3.out hkb (fun _ => hj) (by omega)).symm, hbel.alloc hsz _⟩
            · go_roundw
              case rel => exact ⟨j + 1 + 1, kk, by omega, by go_num, rfl, F0.out hkb (fun _ => hj) (by omega) (by omega), fun _ => HE.out.symm, hbel.alloc hsz _⟩
              case measure => simp [intOf]; omega
            · go_ret
              exact ⟨ret_int (F3.out hkb (fun _ => hj) (by omega)).symm, hbel.alloc hsz _⟩
          · have FF : Hid (wrong l = 2) := F2.out hkb (by omega) (by rw [hj]; exact less_irrefl _)
            have t1 : Op.bytesLess kk.toList kj.toList = false := by rw [hj]; exact less_irrefl _
            have t2 : (kk.toList == kj.toList) = true := by rw [hj]; simp
            clear hj
            go_wp2_with fail
            refine (refKey_calls kk _ hz).mono ?_
            rintro e w' ⟨rfl, rfl⟩
            rw [hkb]
            go_wp2
            go_ret
            exact ⟨ret_int FF.out.symm, hbel.alloc hsz _⟩
          · have FF : Hid (wrong l = 2) := F2.out hkb (by omega) (less_asymm hj)
            have t1 : Op.bytesLess kk.toList kj.toList = true := hj
            clear hj
            go_wp2_with fail
            refine (refKey_calls kk _ hz).mono ?_
            rintro e w' ⟨rfl, rfl⟩
            rw [hkb]
            go_wp2
            go_ret
            exact ⟨ret_int FF.out.symm, hbel.alloc hsz _⟩
    · go_wp2
      go_ret
      exact ⟨ret_int (by rw [wrong, ← HN.out, show n = k from by omega]; exact HW.out.symm), hbel⟩

set_option maxHeartbeats 1000000 in
theorem refGet_calls (l : List Row) (base : Option Addr) (n c : Nat) (k : ByteArray) (w : World) (hs : Srt l) (ha : Holds w base n c l) :
    Calls Tryd.prog 35 #[.slice base n c, .string k] w fun e w' => e = .returned (.tuple #[.int .i64 (num k l), .bool (isAt k l)]) ∧ Below w.heap.size w w' := by
  have HN := hid ha.len
  have hm := Nat.le_trans ha.hdr.le ha.hdr.max
  unfold maxLen at hm
  by_cases h0 : n = 0
  · subst h0
    have hg := hid (get_none (k := k) (l := l) fun j hj => by rw [← HN.out] at hj; omega)
    go_enter Tryd.func35, Tryd.ntmps35
    go_wp2
    go_loop [10] (fun i => i = .int .i64 0) (fun _ => 0)
    case atStart => rfl
    case round =>
      obtain rfl := hrel
      go_wp2
      go_ret2
      exact ⟨by rw [hg.out.1, hg.out.2]; rfl, Below.refl _ _⟩
  rcases ha.seg with h | ⟨b, o, rfl, h1⟩
  · exact absurd (by rw [HN.out, h]; rfl) h0
  have hbw : b < w.heap.size := h1.lt (by rw [← HN.out]; omega)
  have H1 := hid h1
  have HS := hid hs
  clear h1 hs ha h0
  go_enter Tryd.func35, Tryd.ntmps35
  go_wp2
  go_loopw [10] (fun i wr => ∃ j : Nat, j ≤ n ∧ i = .int .i64 j ∧ Hid (∀ t, t < j → (l.getD t default).1 ≠ k) ∧ Below w.heap.size w wr) (fun i _ => n - (intOf i).toNat)
  case atStart => exact ⟨0, Nat.zero_le _, rfl, fun t ht => absurd ht (Nat.not_lt_zero _), Below.refl _ _⟩
  case round =>
    obtain ⟨j, hj, rfl, HA, hbel⟩ := hrel
    have hsz := hbel.size
    by_cases hlt : j < n
    · have hjl : j < l.length := by rw [← HN.out]; exact hlt
      obtain ⟨c1, d1⟩ := (H1.out.below hbel hbw) j hjl
      have HF := hid (get_found (k := k) HS.out hjl)
      have HX : Hid ((l.getD j default).1 ≠ k → ∀ t, t < j + 1 → (l.getD t default).1 ≠ k) := fun hne t ht => by
        by_cases e : t = j
        · rw [e]; exact hne
        · exact HA.out t (by omega)
      generalize (l.getD j default).1 = kk at *
      generalize (l.getD j default).2 = nn at *
      have hi : (j : Int) < (n : Int) := by omega
      by_cases hk : kk = k
      · have hkb : (kk.toList == k.toList) = true := by rw [hk]; simp
        have HE := hid (HF.out hk)
        clear hk
        go_wp2
        go_ret2
        exact ⟨by rw [HE.out.1, HE.out.2]; rfl, hbel.alloc hsz _⟩
      · have hkb : (kk.toList == k.toList) = false := by simpa using fun e => hk (toList_inj e)
        go_wp2
        go_roundw
        case rel => exact ⟨j + 1, by omega, by go_num, HX.out hk, hbel.alloc hsz _⟩
        case measure => simp [intOf]; omega
    · have HG := hid (get_none (k := k) (l := l) fun t ht => HA.out t (by rw [← HN.out] at ht; omega))
      go_wp2
      go_ret2
      exact ⟨by rw [HG.out.1, HG.out.2]; rfl, hbel⟩
end Go.Proofs.YtdnafpenljdinadDoor
