/-
  What the loops of the statement DeedNamed keep.
-/
import Derived.Test.YtfdliblikkpjiabNamedView
import Derived.ChangeKeysEq
namespace Go.Proofs.Ytfdliblikkpjiab
open Go.RowKit

/-- A set of texts, as the statement keeps it. -/
def nameMap (l : List ByteArray) : ByteArray → Option Value := fun k => if has l k = true then some (.bool true) else none
theorem nameMap_snoc (l : List ByteArray) (x : ByteArray) : nameMap (l ++ [x]) = fun j => if j = x then some (.bool true) else nameMap l j := by
  funext j
  unfold nameMap
  rw [has_snoc]
  by_cases e : j = x
  · subst e; simp
  · have : ¬ x = j := fun h => e h.symm
    simp [e, this]
theorem nameMap_nil : nameMap [] = fun _ => none := by funext j; simp [nameMap, has]
theorem nameMap_yes {l : List ByteArray} {k : ByteArray} (h : k ∈ l) : nameMap l k = some (.bool true) := by
  unfold nameMap; rw [if_pos (has_iff.2 h)]
theorem nameMap_getD (l : List ByteArray) (k : ByteArray) : (nameMap l k).getD (.bool false) = .bool (has l k) := by
  unfold nameMap; cases h : has l k <;> simp

/-- Cells lie as they did when one other block alone was written. -/
theorem cell_but {w w' : World} {b x g : Nat} {v : Value} (hg : w.grownBy w' (some g)) (hne : b ≠ g) (h : w.cell? ⟨b, x, none⟩ = some v) : w'.cell? ⟨b, x, none⟩ = some v := by
  have := World.block_lt_of_cell? _ _ h
  rw [World.cell?_of_block (w := w) (a := ⟨b, x, none⟩) (hg.block b this (by simpa using hne))]
  exact h
theorem lies_but {w w' : World} {sz : Nat} {base : Option Addr} {n c g B : Nat} {vs : List Value} (h : Lies w sz base n c vs) (hf : Fresh B base) (hg : w.grownBy w' (some g)) (hB : g < B) : Lies w' sz base n c vs := by
  refine ⟨h.len, h.hdr, ?_⟩
  rcases h.run with h0 | ⟨b, o, e, hr⟩
  · exact .inl h0
  · have hb : B ≤ b := hf _ e
    exact .inr ⟨b, o, e, fun j u hu => cell_but hg (by omega) (hr j u hu)⟩

/-- What the first loop keeps: s is where the map is, its place is behind it. -/
structure NK (w wr : World) (base : Option Addr) (n c j : Nat) (L : List ByteArray) : Prop where
  map : MapIs wr w.heap.size j (nameMap (L.take j))
  place : wr.cell? ⟨w.heap.size + 1, 0, none⟩ = some (.map (some w.heap.size))
  txt : Texts wr base n c L
  old : Below w.heap.size w wr
theorem NK.put {w wr w2 : World} {base : Option Addr} {n c j : Nat} {L : List ByteArray} (h : NK w wr base n c j L) (hj : j < L.length) (hf : Fresh (w.heap.size + 2) base)
    (hm : MapIs w2 w.heap.size (j + 1) (fun k => if k = L.getD j default then some (.bool true) else nameMap (L.take j) k)) (hg : wr.grownBy w2 (some w.heap.size)) : NK w w2 base n c (j + 1) L := by
  refine ⟨?_, cell_but hg (by omega) h.place, lies_but h.txt hf hg (by omega), ⟨hg.os.trans h.old.os, hg.tape.trans h.old.tape, hg.output.trans h.old.output, Nat.le_trans h.old.size hg.size, fun k hk => ?_⟩⟩
  · rw [take_snoc_getD hj, nameMap_snoc]; exact hm
  · have := h.old.size
    rw [hg.block k (by omega) (by simp; omega)]; exact h.old.block k hk

theorem keysOf_vers (m : Made) (W : List ByteArray) : keysOf (vers m W) = W.filter (fun k => (m k).isSome) := by
  induction W with
  | nil => rfl
  | cons k W ih =>
    unfold vers keysOf at *
    rw [List.filterMap_cons, List.filter_cons]
    cases h : m k <;> simp [ih]
/-- What is told of a deed that has ended. -/
def toldV (f : Bool) (m : Made) (W : List ByteArray) : List (ByteArray × Option Int) := if f then [] else vers m W
theorem told_in {f : Bool} {m : Made} {W : List ByteArray} {k : ByteArray} (h : k ∈ keysOf (toldV f m W)) : k ∈ W := by
  unfold toldV at h
  cases f
  · simp only [Bool.false_eq_true, if_false] at h
    rw [keysOf_vers] at h
    exact (List.mem_filter.1 h).1
  · simp [keysOf] at h
theorem told_nodup {f : Bool} {m : Made} {W : List ByteArray} (h : W.Nodup) : (keysOf (toldV f m W)).Nodup := by
  unfold toldV
  cases f
  · simp only [Bool.false_eq_true, if_false]
    rw [keysOf_vers]
    exact h.filter _
  · simp [keysOf]
theorem fresh_key {l : List ByteArray} (h : l.Nodup) {j : Nat} (hj : j < l.length) : has (l.take j) (l.getD j default) = false := by
  cases e : has (l.take j) (l.getD j default) with
  | false => rfl
  | true =>
    rw [has_iff, List.mem_take_iff_getElem] at e
    obtain ⟨i, hi, e⟩ := e
    rw [List.nodup_iff_pairwise_ne, List.pairwise_iff_getElem] at h
    exact absurd (by rw [e]; simp [List.getD, hj]) (h i j (by omega) hj (by omega))

/-- What the second loop keeps: s is the map's block. -/
structure HK2 (w wr : World) (s j : Nat) (L : List ByteArray) : Prop where
  map : MapIs wr s j (nameMap (L.take j))
  old : Below s w wr
theorem HK2.put {w wr w2 : World} {s j : Nat} {L : List ByteArray} (h : HK2 w wr s j L) (hj : j < L.length)
    (hm : MapIs w2 s (j + 1) (fun k => if k = L.getD j default then some (.bool true) else nameMap (L.take j) k)) (hg : wr.grownBy w2 (some s)) : HK2 w w2 s (j + 1) L := by
  refine ⟨?_, ⟨hg.os.trans h.old.os, hg.tape.trans h.old.tape, hg.output.trans h.old.output, Nat.le_trans h.old.size hg.size, fun k hk => ?_⟩⟩
  · rw [take_snoc_getD hj, nameMap_snoc]; exact hm
  · have := h.map.lt
    rw [hg.block k (by omega) (by simp; omega)]; exact h.old.block k hk
theorem below_cell {B : Nat} {w w' : World} {b x : Nat} {v : Value} (hb : Below B w w') (hB : b < B) (h : w.cell? ⟨b, x, none⟩ = some v) : w'.cell? ⟨b, x, none⟩ = some v := by
  rw [hb.cell (p := ⟨b, x, none⟩) hB]; exact h
theorem intCells : Try.prog.cellsOf 3 = 1 := by kernel_rfl
set_option maxRecDepth 100000 in
theorem regsEq (a b c d : Int) (w : World) : (Op.equalIn 9999 32 (.agg #[.int .i64 a, .int .i64 b, .int .i64 c, .int .i64 d]) (.agg #[.int .i64 a, .int .i64 b, .int .i64 c, .int .i64 d])).run Try.prog w = .ok true w := by
  obtain ⟨i, hi⟩ : ∃ i, Try.prog.info? 3 = some i := ⟨_, rfl⟩
  rw [show (9999 : Nat) = 9998 + 1 from rfl, run_equalIn_array w 9998 _ _ Try.underlying32 hi, intCells]
  simp [Op.eqItems, List.range, List.range.loop, go_sem]
end Go.Proofs.Ytfdliblikkpjiab
