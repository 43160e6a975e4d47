/-
  Key of the program and of the document's answer tell the same keys; Round tells what is left.
  What it means that a slice in memory holds rows, and that this stands while other memory grows.
  find of the program: the place of a key in rows that rise, and whether it is there; so around and Get.
  around and Get of the program, of rows that rise.
  slices.Concat over rows: the rows one behind the other, in new memory.
-/
import Derived.Test.YthmkgfdglkdjmaeGreatDoorChecked
import Derived.Test.YthmkgfdglkdjmaeGreatDoorDeedMath
import Derived.WalkKit
import Derived.WalkSpells
import Derived.WalkLawsBesides
import Derived.Below
import Derived.LoopTactic
import Derived.Outline
import Derived.BigQuiet
import Derived.Deep.QuietTactic
import Derived.OwnWalk
import Derived.Lib.AppendZerosOnto
import Derived.Laws.AppendOwn
namespace Go.Proofs.YthmkgfdglkdjmaeGreatDoor
open Go.RowKit

theorem take_snoc (s : ByteArray) (k : Nat) (h : k < s.size) : s.data.toList.take (k + 1) = s.data.toList.take k ++ [s[k]] := by
  rw [List.take_succ_eq_append_getElem (by simpa using h)]; rfl
theorem all_snoc (l : List UInt8) (c : UInt8) : (l ++ [c]).all okc = (l.all okc && okc c) := by simp
theorem ret_bool {a b : Bool} (h : a = b) : Ending.returned (.bool a) = .returned (.bool b) := by rw [h]
theorem all_take {l : List UInt8} {k : Nat} (h : (l.take k).all okc = false) : l.all okc = false := by
  rw [← List.take_append_drop k l, List.all_append, h]; rfl

theorem key_bad (s : ByteArray) (k : Nat) (hlt : k < s.size) (HK : Hid (keyB s = s.data.toList.all okc)) (HS : Hid ((s.data.toList.take (k + 1)).all okc = okc s[k]))
    (h : (s[k].toNat : Int) < 97 ∨ 122 < (s[k].toNat : Int)) : keyB s = false := by
  have ho : okc s[k] = false := by simp [okc]; omega
  rw [HK.out]; exact all_take (k := k + 1) (by rw [HS.out, ho])
theorem key_good (s : ByteArray) (k : Nat) (hlt : k < s.size) (HS : Hid ((s.data.toList.take (k + 1)).all okc = okc s[k]))
    (h1 : 97 ≤ (s[k].toNat : Int)) (h2 : (s[k].toNat : Int) ≤ 122) : Hid ((s.data.toList.take (k + 1)).all okc = true) := by
  show _ = _
  rw [HS.out]; simp [okc]; omega

set_option maxHeartbeats 400000 in
theorem key_calls (s : ByteArray) (w : World) (hs : s.size ≤ maxLen) :
    Calls Tryz.prog 51 #[.string s] w fun e w' => e = .returned (.bool (keyB s)) ∧ w = w' := by
  unfold maxLen at hs
  by_cases h1 : s.size < 1
  · have hb : Hid (keyB s = false) := by show _ = _; simp [keyB]; omega
    go_enter Tryz.func51, Tryz.ntmps51
    go_wp2
    go_ret
    exact ⟨ret_bool hb.out.symm, rfl⟩
  by_cases h2 : s.size > 6
  · have hb : Hid (keyB s = false) := by show _ = _; simp [keyB]; omega
    go_enter Tryz.func51, Tryz.ntmps51
    go_wp2
    go_ret
    exact ⟨ret_bool hb.out.symm, rfl⟩
  have hk : keyB s = s.data.toList.all okc := by simp [keyB]; omega
  have HK : Hid (keyB s = s.data.toList.all okc) := hk
  clear hk
  go_enter Tryz.func51, Tryz.ntmps51
  go_wp2
  go_loop [14] (fun i => ∃ k : Nat, k ≤ s.size ∧ i = .int .i64 k ∧ Hid ((s.data.toList.take k).all okc = true)) (fun i => s.size - (intOf i).toNat)
  case atStart => exact ⟨0, Nat.zero_le _, rfl, rfl⟩
  case round =>
    obtain ⟨k, hk, rfl, HA⟩ := hrel
    by_cases hlt : k < s.size
    · have HS : Hid ((s.data.toList.take (k + 1)).all okc = okc s[k]) := by
        show _ = _
        rw [take_snoc s k hlt, all_snoc, HA.out]; rfl
      go_wp2
      · go_ret
        exact ⟨ret_bool (key_bad s k hlt HK HS (.inr (by omega))).symm, rfl⟩
      · go_round
        case rel => exact ⟨k + 1, by omega, by go_num, key_good s k hlt HS (by omega) (by omega)⟩
        case measure => simp [intOf]; omega
      · go_ret
        exact ⟨ret_bool (key_bad s k hlt HK HS (.inl (by omega))).symm, rfl⟩
    · go_wp2
      go_ret
      exact ⟨ret_bool (by rw [HK.out, ← HA.out, List.take_of_length_le (by simp; omega)]), rfl⟩

theorem keyB_off (s : ByteArray) (h : s.data.toList.all okc = false) : keyB s = false := by simp [keyB, h]

set_option maxHeartbeats 400000 in
theorem refKey_calls (s : ByteArray) (w : World) (hs : s.size ≤ maxLen) :
    Calls Tryz.prog 24 #[.string s] w fun e w' => e = .returned (.bool (keyB s)) ∧ w = w' := by
  unfold maxLen at hs
  go_enter Tryz.func24, Tryz.ntmps24
  go_wp2
  go_loop [6] (fun i => ∃ k : Nat, k ≤ s.size ∧ i = .int .i64 k ∧ Hid ((s.data.toList.take k).all okc = true)) (fun i => s.size - (intOf i).toNat)
  case atStart => exact ⟨0, Nat.zero_le _, rfl, rfl⟩
  case round =>
    obtain ⟨k, hk, rfl, HA⟩ := hrel
    by_cases hlt : k < s.size
    · have HS : Hid ((s.data.toList.take (k + 1)).all okc = okc s[k]) := by
        show _ = _
        rw [take_snoc s k hlt, all_snoc, HA.out]; rfl
      go_wp2
      · go_ret
        exact ⟨ret_bool (keyB_off s (all_take (k := k + 1) (by rw [HS.out]; simp [okc]; omega))).symm, rfl⟩
      · go_round
        case rel => exact ⟨k + 1, by omega, by go_num, key_good s k hlt HS (by omega) (by omega)⟩
        case measure => simp [intOf]; omega
      · go_ret
        exact ⟨ret_bool (keyB_off s (all_take (k := k + 1) (by rw [HS.out]; simp [okc]; omega))).symm, rfl⟩
    · have HF : Hid (s.data.toList.all okc = true) := by
        show _ = _
        rw [← HA.out, List.take_of_length_le (by simp; omega)]
      go_wp2
      all_goals
        go_ret
        exact ⟨ret_bool (by rw [keyB, HF.out, Bool.eq_iff_iff]; simp; omega), rfl⟩

theorem ret_int {k : IntKind} {a b : Int} (h : a = b) : Ending.returned (.int k a) = .returned (.int k b) := by rw [h]
end Go.Proofs.YthmkgfdglkdjmaeGreatDoor

namespace Go.Proofs.YthmkgfdglkdjmaeGreatDoor
open Go.RowKit

theorem hid {p : Prop} (h : p) : Hid p := h

/-- The two cells of row i, at block b from off on, hold the list's row i. -/
def Cells (w : World) (b off : Nat) (l : List Row) : Prop :=
  ∀ i, i < l.length → w.cell? ⟨b, off + i * 2, none⟩ = some (.string (l.getD i default).1) ∧ w.cell? ⟨b, off + i * 2 + 1, none⟩ = some (.int .i64 (l.getD i default).2)

/-- A slice with this address holds the rows l (of no rows nothing is asked). -/
def Seg (w : World) (base : Option Addr) (l : List Row) : Prop :=
  l = [] ∨ ∃ b off, base = some ⟨b, off, none⟩ ∧ Cells w b off l

theorem Cells.lt {w : World} {b off : Nat} {l : List Row} (h : Cells w b off l) (hl : 0 < l.length) : b < w.heap.size := by
  have := (h 0 hl).1
  simpa using World.block_lt_of_cell? _ _ this

theorem Cells.below {w w' : World} {b off B : Nat} {l : List Row} (h : Cells w b off l) (hb : Below B w w') (hB : b < B) : Cells w' b off l := fun i hi => by
  rw [hb.cell (p := ⟨b, off + i * 2, none⟩) hB, hb.cell (p := ⟨b, off + i * 2 + 1, none⟩) hB]
  exact h i hi

theorem Seg.below {w w' : World} {base : Option Addr} {l : List Row} (h : Seg w base l) (hb : Below w.heap.size w w') : Seg w' base l := by
  rcases h with h | ⟨b, off, e, hc⟩
  · exact .inl h
  · by_cases hl : 0 < l.length
    · exact .inr ⟨b, off, e, hc.below hb (hc.lt hl)⟩
    · exact .inl (List.eq_nil_of_length_eq_zero (by omega))

end Go.Proofs.YthmkgfdglkdjmaeGreatDoor

namespace Go.Proofs.YthmkgfdglkdjmaeGreatDoor
open Go.RowKit

theorem cell_past {w : World} {b x : Nat} {v : Value} (o : Obj) (h : w.cell? ⟨b, x, none⟩ = some v) : (w.alloc o).cell? ⟨b, x, none⟩ = some v := by
  have hb := World.block_lt_of_cell? _ _ h
  rw [World.cell?_alloc_past _ _ _ hb]; exact h
end Go.Proofs.YthmkgfdglkdjmaeGreatDoor

namespace Go.Proofs.YthmkgfdglkdjmaeGreatDoor
open Go.RowKit

/-- A slice's head: its length within its capacity; nil has none. -/
structure Hdr (base : Option Addr) (n c : Nat) : Prop where
  le : n ≤ c
  max : c ≤ maxLen
  nil : base = none → c = 0

/-- A slice holds the rows l. -/
structure Holds (w : World) (base : Option Addr) (n c : Nat) (l : List Row) : Prop where
  len : n = l.length
  seg : Seg w base l
  hdr : Hdr base n c

theorem Holds.below {w w' : World} {base : Option Addr} {n c : Nat} {l : List Row} (h : Holds w base n c l) (hb : Below w.heap.size w w') : Holds w' base n c l := ⟨h.len, h.seg.below hb, h.hdr⟩
theorem Holds.empty (w : World) {base : Option Addr} {n c : Nat} {l : List Row} (hl : n = l.length) (h : n = 0) (hh : Hdr base n c) : Holds w base n c l := ⟨hl, .inl (List.eq_nil_of_length_eq_zero (by omega)), hh⟩
theorem Holds.cells {w : World} {b o n c : Nat} {l : List Row} (hl : n = l.length) (h : Cells w b o l) (h1 : n ≤ c) (h2 : c ≤ maxLen) : Holds w (some ⟨b, o, none⟩) n c l := ⟨hl, .inr ⟨b, o, rfl, h⟩, ⟨h1, h2, fun h => by cases h⟩⟩

theorem getD_drop (l : List Row) (p i : Nat) : (l.drop p).getD i default = l.getD (p + i) default := by simp [List.getD]
theorem getD_take (l : List Row) (p i : Nat) (h : i < p) : (l.take p).getD i default = l.getD i default := by simp [List.getD, h]

theorem Cells.take {w : World} {b o : Nat} {l : List Row} (h : Cells w b o l) (p : Nat) : Cells w b o (l.take p) := fun i hi => by
  have hi' : i < p ∧ i < l.length := by simpa [Nat.lt_min] using hi
  rw [getD_take l p i hi'.1]
  exact h i hi'.2
theorem Cells.drop {w : World} {b o : Nat} {l : List Row} (h : Cells w b o l) (p : Nat) : Cells w b (o + p * 2) (l.drop p) := fun i hi => by
  have hi' : p + i < l.length := by simp at hi; omega
  rw [getD_drop]
  have := h (p + i) hi'
  rw [show o + p * 2 + i * 2 = o + (p + i) * 2 from by omega]
  exact this

end Go.Proofs.YthmkgfdglkdjmaeGreatDoor

namespace Go.Proofs.YthmkgfdglkdjmaeGreatDoor
open Go.RowKit

/-- The memory of a slice is of elements of the type t. -/
def Kind (w : World) (t : TypeId) (base : Option Addr) : Prop := ∀ a, base = some a → ∃ cur z, w.heap[a.block]? = some (.cells cur t z)
theorem Kind.none (w : World) (t : TypeId) : Kind w t none := fun _ h => by cases h
theorem Kind.below {w w' : World} {t : TypeId} {base : Option Addr} (h : Kind w t base) (hb : Below w.heap.size w w') : Kind w' t base := fun a e => by
  obtain ⟨cur, z, hc⟩ := h a e
  exact ⟨cur, z, by rw [hb.block a.block (Array.getElem?_eq_some_iff.1 hc).1]; exact hc⟩
theorem Kind.set {w : World} {t : TypeId} {base : Option Addr} (h : Kind w t base) (p : Addr) (u : Value) : Kind (w.setCell p u) t base := fun a e => by
  obtain ⟨cur, z, hc⟩ := h a e
  by_cases hp : a.block = p.block
  · simp only [World.setCell, Array.getElem?_modify]
    rw [if_pos hp.symm, hc]
    simp only [Option.map_some]
    split
    · exact ⟨_, _, rfl⟩
    · exact ⟨_, _, rfl⟩
  · exact ⟨cur, z, by rw [Below.heap_setCell _ _ _ _ hp]; exact hc⟩
theorem Kind.owned {w : World} {B t s n : Nat} {base : Option Addr} {c : Nat} {xs : List Value} (h : w.ownsRow B t s (.slice base n c) n xs) : Kind w t base := fun a e => by
  rcases h.2 with ⟨h', _⟩ | ⟨g, cap, cur, h', _, hg, _⟩
  · simp at h'; rw [h'.1] at e; cases e
  · simp at h'; rw [h'.1] at e; cases e; exact ⟨cur, _, hg⟩

end Go.Proofs.YthmkgfdglkdjmaeGreatDoor
