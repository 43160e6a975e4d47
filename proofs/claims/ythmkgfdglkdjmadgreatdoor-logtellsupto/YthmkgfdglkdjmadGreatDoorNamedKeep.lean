/-
  Whether two deeds are the same, by the program.
  How the program does a right deed.
  The closed fact that the statement DeedNamed asks first is so.
  The document's own WrongRows and Get, walked.
  The two views that the statement DeedNamed hands to a deed.
  What the loops of the statement DeedNamed keep.
-/
import Derived.Test.YthmkgfdglkdjmadGreatDoorDeedOwn
import Derived.Test.YthmkgfdglkdjmadGreatDoorDeedTurn
import Derived.Deep.RegionWith
import Derived.Deep.QuietTactic
import Derived.BigQuiet
import Derived.Test.YthmkgfdglkdjmadGreatDoorConcat
import Derived.Test.YthmkgfdglkdjmadGreatDoorRefMath
import Derived.ChangeKeysEq
namespace Go.Proofs.YthmkgfdglkdjmadGreatDoor
open Go.RowKit

end Go.Proofs.YthmkgfdglkdjmadGreatDoor

namespace Go.Proofs.YthmkgfdglkdjmadGreatDoor
open Go.RowKit

/-- Four registers in a block. -/
structure Regs (w : World) (s : Nat) (r : Nat → Int) : Prop where
  at_ : ∀ i, i < 4 → w.cell? ⟨s, i, none⟩ = some (.int .i64 (r i))
  free : ∀ i, i < 4 → w.frozen? ⟨s, i, none⟩ = false
theorem Regs.lt {w : World} {s : Nat} {r : Nat → Int} (h : Regs w s r) : s < w.heap.size := by simpa using World.block_lt_of_cell? _ _ (h.at_ 0 (by decide))
theorem Regs.deep {w w' : World} {s B : Nat} {r : Nat → Int} (h : Regs w s r) (hb : Below B w w') (hB : s < B) : Regs w' s r :=
  ⟨fun i hi => by rw [hb.cell (p := ⟨s, i, none⟩) hB]; exact h.at_ i hi, fun i hi => by rw [hb.frozen (p := ⟨s, i, none⟩) hB]; exact h.free i hi⟩
theorem Regs.set {w : World} {s : Nat} {r : Nat → Int} (h : Regs w s r) {a : Nat} (ha : a < 4) (x : Int) : Regs (w.setCell ⟨s, a, none⟩ (.int .i64 x)) s (setR r a x) := by
  refine ⟨fun i hi => ?_, fun i hi => by rw [World.frozen?_setCell]; exact h.free i hi⟩
  by_cases e : i = a
  · subst e
    rw [World.cell?_setCell_same _ _ _ (h.at_ i hi)]; simp [setR]
  · rw [World.cell?_setCell_other _ _ _ _ (fun x => e (by cases x; rfl)), h.at_ i hi]; simp [setR, e]
theorem Regs.alloc {w : World} {s : Nat} {r : Nat → Int} (h : Regs w s r) (o : Obj) : Regs (w.alloc o) s r := h.deep (B := w.heap.size) ((Below.refl _ _).alloc (Nat.le_refl _) _) h.lt

/-- What the loop of a deed keeps: s is where the registers are; behind them the map, and the place of the map. -/
structure Keeps (w wr : World) (q : Nat) (r : Nat → Int) (m : Made) : Prop where
  regs : Regs wr w.heap.size r
  place : wr.cell? ⟨w.heap.size + 2, 0, none⟩ = some (.map (some (w.heap.size + 1)))
  map : MapIs wr (w.heap.size + 1) q (verMap m)
  old : Below w.heap.size w wr
theorem Keeps.deep {w wr wr' : World} {q : Nat} {r : Nat → Int} {m : Made} (h : Keeps w wr q r m) (hb : Below wr.heap.size wr wr') : Keeps w wr' q r m :=
  ⟨h.regs.deep hb h.regs.lt, kept_cell hb h.place, h.map.deep hb, h.old.trans (hb.mono (Nat.le_of_lt h.regs.lt))⟩
theorem Keeps.set {w wr : World} {q : Nat} {r : Nat → Int} {m : Made} (h : Keeps w wr q r m) {a : Nat} (ha : a < 4) (x : Int) : Keeps w (wr.setCell ⟨w.heap.size, a, none⟩ (.int .i64 x)) q (setR r a x) m :=
  ⟨h.regs.set ha x, by rw [World.cell?_setCell_other _ _ _ _ (fun e => by have := congrArg Addr.block e; simp at this)]; exact h.place, h.map.setCell (by simp) _, h.old.setCell (Nat.le_refl _) _⟩
theorem Keeps.put {w wr w2 : World} {q : Nat} {r : Nat → Int} {m : Made} {k : ByteArray} {o : Option Int} (h : Keeps w wr q r m) (hm : MapIs w2 (w.heap.size + 1) (q + 1) (fun j => if j = k then some (verVal o) else verMap m j)) (hg : wr.grownBy w2 (some (w.heap.size + 1))) : Keeps w w2 (q + 1) r (setM m k o) := by
  have hlt := h.regs.lt
  have hpl : w.heap.size + 2 < wr.heap.size := by simpa using World.block_lt_of_cell? _ _ h.place
  have hb0 := hg.block w.heap.size (by omega) (by simp)
  have hb2 := hg.block (w.heap.size + 2) (by omega) (by simp)
  refine ⟨⟨fun i hi => ?_, fun i hi => ?_⟩, ?_, ?_, ⟨hg.os.trans h.old.os, hg.tape.trans h.old.tape, hg.output.trans h.old.output, Nat.le_trans h.old.size hg.size, fun j hj => (hg.block j (by omega) (by simp; omega)).trans (h.old.block j hj)⟩⟩
  · rw [World.cell?_of_block (w := wr) (a := ⟨w.heap.size, i, none⟩) hb0]; exact h.regs.at_ i hi
  · rw [World.frozen?_of_block (w := wr) (a := ⟨w.heap.size, i, none⟩) hb0]; exact h.regs.free i hi
  · rw [World.cell?_of_block (w := wr) (a := ⟨w.heap.size + 2, 0, none⟩) hb2]; exact h.place
  · rw [verMap_set]; exact hm
/-- Five cells written one behind the other. -/
def five (w : World) (b : Nat) (f : Bool) (x0 x1 x2 x3 : Int) : World :=
  ((((w.setCell ⟨b, 0, none⟩ (.bool f)).setCell ⟨b, 1, none⟩ (.int .i64 x0)).setCell ⟨b, 2, none⟩ (.int .i64 x1)).setCell ⟨b, 3, none⟩ (.int .i64 x2)).setCell ⟨b, 4, none⟩ (.int .i64 x3)
structure Five (w : World) (b : Nat) (f : Bool) (x0 x1 x2 x3 : Int) : Prop where
  c0 : w.cell? ⟨b, 0, none⟩ = some (.bool f)
  c1 : w.cell? ⟨b, 1, none⟩ = some (.int .i64 x0)
  c2 : w.cell? ⟨b, 2, none⟩ = some (.int .i64 x1)
  c3 : w.cell? ⟨b, 3, none⟩ = some (.int .i64 x2)
  c4 : w.cell? ⟨b, 4, none⟩ = some (.int .i64 x3)
theorem Keeps.start (w : World) (t u : Nat) : Keeps w (((w.alloc (.cells #[.int .i64 0, .int .i64 0, .int .i64 0, .int .i64 0] t)).alloc (.map #[] 0)).alloc (.cells #[.map (some (w.heap.size + 1))] u)) 0 (fun _ => 0) (fun _ => none) := by
  have hreg : Regs (w.alloc (.cells #[.int .i64 0, .int .i64 0, .int .i64 0, .int .i64 0] t)) w.heap.size (fun _ => 0) := by
    refine ⟨fun i hi => ?_, fun i _ => World.frozen?_alloc_at _ _ _ _ rfl⟩
    rw [World.cell?_alloc_at _ _ _ _ rfl]
    have : i = 0 ∨ i = 1 ∨ i = 2 ∨ i = 3 := by omega
    rcases this with rfl | rfl | rfl | rfl <;> rfl
  refine ⟨(hreg.alloc _).alloc _, ?_, ?_, (((Below.refl _ _).alloc (Nat.le_refl _) _).alloc (by simp) _).alloc (by simp; omega) _⟩
  · rw [World.cell?_alloc_at _ _ _ _ (by simp)]; rfl
  · have := (MapIs.made (w.alloc (.cells #[.int .i64 0, .int .i64 0, .int .i64 0, .int .i64 0] t))).alloc (.cells #[.map (some (w.heap.size + 1))] u)
    rw [World.size_alloc] at this
    exact this.ext fun k => rfl


end Go.Proofs.YthmkgfdglkdjmadGreatDoor

namespace Go.Proofs.YthmkgfdglkdjmadGreatDoor
open Go.RowKit

theorem lies_new (w : World) (vs : Array Value) (t sz n : Nat) (h : vs.size = n * sz) (hn : n ≤ maxLen) : Lies (w.alloc (.cells vs t)) sz (some ⟨w.heap.size, 0, none⟩) n n vs.toList := by
  refine ⟨by simp [h], ⟨Nat.le_refl _, hn, fun h => by cases h⟩, .inr ⟨_, _, rfl, fun j u hu => ?_⟩⟩
  rw [Nat.zero_add]
  exact box_cell _ _ _ _ _ (by simpa using hu)
theorem grew (w : World) (o : Obj) : Below w.heap.size w (w.alloc o) := (Below.refl _ _).alloc (Nat.le_refl _) _
end Go.Proofs.YthmkgfdglkdjmadGreatDoor

namespace Go.Proofs.YthmkgfdglkdjmadGreatDoor
open Go.RowKit

end Go.Proofs.YthmkgfdglkdjmadGreatDoor

namespace Go.Proofs.YthmkgfdglkdjmadGreatDoor
open Go.RowKit

end Go.Proofs.YthmkgfdglkdjmadGreatDoor

namespace Go.Proofs.YthmkgfdglkdjmadGreatDoor
open Go.RowKit

/-- A set of texts, as the statement keeps it. -/
def nameMap (l : List ByteArray) : ByteArray → Option Value := fun k => if has l k = true then some (.bool true) else none
theorem nameMap_snoc (l : List ByteArray) (x : ByteArray) : nameMap (l ++ [x]) = fun j => if j = x then some (.bool true) else nameMap l j := by
  funext j
  unfold nameMap
  rw [has_snoc]
  by_cases e : j = x
  · subst e; simp
  · have : ¬ x = j := fun h => e h.symm
    simp [e, this]
/-- Cells lie as they did when one other block alone was written. -/
theorem cell_but {w w' : World} {b x g : Nat} {v : Value} (hg : w.grownBy w' (some g)) (hne : b ≠ g) (h : w.cell? ⟨b, x, none⟩ = some v) : w'.cell? ⟨b, x, none⟩ = some v := by
  have := World.block_lt_of_cell? _ _ h
  rw [World.cell?_of_block (w := w) (a := ⟨b, x, none⟩) (hg.block b this (by simpa using hne))]
  exact h
theorem lies_but {w w' : World} {sz : Nat} {base : Option Addr} {n c g B : Nat} {vs : List Value} (h : Lies w sz base n c vs) (hf : Fresh B base) (hg : w.grownBy w' (some g)) (hB : g < B) : Lies w' sz base n c vs := by
  refine ⟨h.len, h.hdr, ?_⟩
  rcases h.run with h0 | ⟨b, o, e, hr⟩
  · exact .inl h0
  · have hb : B ≤ b := hf _ e
    exact .inr ⟨b, o, e, fun j u hu => cell_but hg (by omega) (hr j u hu)⟩

/-- What the first loop keeps: s is where the map is, its place is behind it. -/
structure NK (w wr : World) (base : Option Addr) (n c j : Nat) (L : List ByteArray) : Prop where
  map : MapIs wr w.heap.size j (nameMap (L.take j))
  place : wr.cell? ⟨w.heap.size + 1, 0, none⟩ = some (.map (some w.heap.size))
  txt : Texts wr base n c L
  old : Below w.heap.size w wr
theorem NK.put {w wr w2 : World} {base : Option Addr} {n c j : Nat} {L : List ByteArray} (h : NK w wr base n c j L) (hj : j < L.length) (hf : Fresh (w.heap.size + 2) base)
    (hm : MapIs w2 w.heap.size (j + 1) (fun k => if k = L.getD j default then some (.bool true) else nameMap (L.take j) k)) (hg : wr.grownBy w2 (some w.heap.size)) : NK w w2 base n c (j + 1) L := by
  refine ⟨?_, cell_but hg (by omega) h.place, lies_but h.txt hf hg (by omega), ⟨hg.os.trans h.old.os, hg.tape.trans h.old.tape, hg.output.trans h.old.output, Nat.le_trans h.old.size hg.size, fun k hk => ?_⟩⟩
  · rw [take_snoc_getD hj, nameMap_snoc]; exact hm
  · have := h.old.size
    rw [hg.block k (by omega) (by simp; omega)]; exact h.old.block k hk

/-- What the second loop keeps: s is the map's block. -/
structure HK2 (w wr : World) (s j : Nat) (L : List ByteArray) : Prop where
  map : MapIs wr s j (nameMap (L.take j))
  old : Below s w wr
theorem HK2.put {w wr w2 : World} {s j : Nat} {L : List ByteArray} (h : HK2 w wr s j L) (hj : j < L.length)
    (hm : MapIs w2 s (j + 1) (fun k => if k = L.getD j default then some (.bool true) else nameMap (L.take j) k)) (hg : wr.grownBy w2 (some s)) : HK2 w w2 s (j + 1) L := by
  refine ⟨?_, ⟨hg.os.trans h.old.os, hg.tape.trans h.old.tape, hg.output.trans h.old.output, Nat.le_trans h.old.size hg.size, fun k hk => ?_⟩⟩
  · rw [take_snoc_getD hj, nameMap_snoc]; exact hm
  · have := h.map.lt
    rw [hg.block k (by omega) (by simp; omega)]; exact h.old.block k hk
end Go.Proofs.YthmkgfdglkdjmadGreatDoor
