/-
  The table of how instructions are written: its places filled are an instruction's words, and words held against it are that instruction, or none.
  Key of the program and of the document's answer tell the same keys; Round tells what is left.
  What it means that a slice in memory holds rows, and that this stands while other memory grows.
  find of the program: the place of a key in rows that rise, and whether it is there; so around and Get.
  around and Get of the program, of rows that rise.
  slices.Concat over rows: the rows one behind the other, in new memory.
  What it means that a slice in memory holds cells, of whatever type, and how an append onto a row of the call's own goes.
-/
import Derived.Test.YtagangiilcicpaeGreatDoorTextBack
import Derived.Test.YtagangiilcicpaeGreatDoorChecked
import Derived.Test.YtagangiilcicpaeGreatDoorDeedMath
import Derived.WalkKit
import Derived.WalkSpells
import Derived.WalkLawsBesides
import Derived.Below
import Derived.LoopTactic
import Derived.Outline
import Derived.BigQuiet
import Derived.Deep.QuietTactic
import Derived.OwnWalk
import Derived.Lib.AppendZerosOnto
import Derived.Laws.AppendOwn
namespace Go.Proofs.YtagangiilcicpaeGreatDoor
open Go.Lib

/-- How an instruction of a kind is written. -/
def shapeT (k : Nat) : T := match k with
  | 1 => [108, 111, 97, 100, 32, 114, 65, 32, 107, 101, 121]
  | 2 => [99, 111, 110, 115, 116, 32, 114, 65, 32, 110]
  | 3 => [97, 100, 100, 32, 114, 65, 32, 114, 66]
  | 4 => [115, 117, 98, 32, 114, 65, 32, 114, 66]
  | 5 => [109, 117, 108, 32, 114, 65, 32, 114, 66]
  | 6 => [115, 116, 111, 114, 101, 32, 114, 65, 32, 107, 101, 121]
  | 7 => [100, 114, 111, 112, 32, 107, 101, 121]
  | 8 => [115, 107, 105, 112, 32, 114, 65, 32, 110]
  | 9 => [102, 97, 105, 108, 32, 114, 65]
  | _ => []
def pA : T := [114, 65]
def pB : T := [114, 66]
def pN : T := [110]
def pK : T := [107, 101, 121]
def placesT (k : Nat) : List T := spl1 [] (shapeT k)
theorem placesT_1 : placesT 1 = [word 1, pA, pK] := by decide
theorem placesT_2 : placesT 2 = [word 2, pA, pN] := by decide
theorem placesT_3 : placesT 3 = [word 3, pA, pB] := by decide
theorem placesT_4 : placesT 4 = [word 4, pA, pB] := by decide
theorem placesT_5 : placesT 5 = [word 5, pA, pB] := by decide
theorem placesT_6 : placesT 6 = [word 6, pA, pK] := by decide
theorem placesT_7 : placesT 7 = [word 7, pK] := by decide
theorem placesT_8 : placesT 8 = [word 8, pA, pN] := by decide
theorem placesT_9 : placesT 9 = [word 9, pA] := by decide
/-! ### Written -/
theorem word_plainP (k : Nat) : word k ≠ pA ∧ word k ≠ pB ∧ word k ≠ pN ∧ word k ≠ pK := by
  unfold word; split <;> decide
/-! ### Read -/
def fillStep (p w : T) (i : Ins) : Option Ins :=
  if p = pA then (regOf w).map fun x => (i.kind, x, i.b, i.n, i.key)
  else if p = pB then (regOf w).map fun x => (i.kind, i.a, x, i.n, i.key)
  else if p = pN then (numOf w).map fun x => (i.kind, i.a, i.b, x, i.key)
  else if p = pK then some (i.kind, i.a, i.b, i.n, ofT w)
  else some i
def fillG : List T → List T → Ins → Option Ins
  | p :: ps, w :: ws, i => (fillStep p w i).bind (fillG ps ws)
  | _, _, i => some i
def ins0 (k : Nat) : Ins := ((k : Int), 0, 0, 0, ⟨#[]⟩)
/-- What the words behind a kind's own word are. -/
def fillR (k : Nat) (l : List T) : Int × Ins :=
  if l.length ≠ (placesT k).length then (2, default)
  else match fillG (placesT k) l (ins0 k) with
    | some i => (0, i)
    | none => (2, default)
theorem fillStep_A (w : T) (i : Ins) : fillStep pA w i = (regOf w).map fun x => (i.kind, x, i.b, i.n, i.key) := rfl
theorem fillStep_B (w : T) (i : Ins) : fillStep pB w i = (regOf w).map fun x => (i.kind, i.a, x, i.n, i.key) := rfl
theorem fillStep_N (w : T) (i : Ins) : fillStep pN w i = (numOf w).map fun x => (i.kind, i.a, i.b, x, i.key) := rfl
theorem fillStep_K (w : T) (i : Ins) : fillStep pK w i = some (i.kind, i.a, i.b, i.n, ofT w) := rfl
theorem fillStep_word (k : Nat) (w : T) (i : Ins) : fillStep (word k) w i = some i := by
  obtain ⟨h1, h2, h3, h4⟩ := word_plainP k
  unfold fillStep; rw [if_neg h1, if_neg h2, if_neg h3, if_neg h4]
theorem read_fill {l : List T} {k : Nat} (hk : kindOf (l.headD []) = k) (h1 : 1 ≤ k) (h9 : k ≤ 9) : readIns l = fillR k l := by
  have : k = 1 ∨ k = 2 ∨ k = 3 ∨ k = 4 ∨ k = 5 ∨ k = 6 ∨ k = 7 ∨ k = 8 ∨ k = 9 := by omega
  unfold readIns fillR
  rw [hk]
  rcases this with rfl | rfl | rfl | rfl | rfl | rfl | rfl | rfl | rfl
  · rw [placesT_1]
    rcases l with _ | ⟨x, _ | ⟨y, _ | ⟨z, _ | ⟨u, l⟩⟩⟩⟩ <;> simp [fillG, fillStep_word, fillStep_A, fillStep_K, ins0]
    cases regOf y <;> simp [Ins.kind, Ins.b, Ins.n]
  · rw [placesT_2]
    rcases l with _ | ⟨x, _ | ⟨y, _ | ⟨z, _ | ⟨u, l⟩⟩⟩⟩ <;> simp [fillG, fillStep_word, fillStep_A, fillStep_N, ins0]
    cases regOf y <;> simp [Ins.kind, Ins.b, Ins.n]
    cases numOf z <;> simp [Ins.a, Ins.key]
  · rw [placesT_3]
    rcases l with _ | ⟨x, _ | ⟨y, _ | ⟨z, _ | ⟨u, l⟩⟩⟩⟩ <;> simp [fillG, fillStep_word, fillStep_A, fillStep_B, ins0]
    cases regOf y <;> simp [Ins.kind, Ins.b, Ins.n]
    cases regOf z <;> simp [Ins.a, Ins.key]
  · rw [placesT_4]
    rcases l with _ | ⟨x, _ | ⟨y, _ | ⟨z, _ | ⟨u, l⟩⟩⟩⟩ <;> simp [fillG, fillStep_word, fillStep_A, fillStep_B, ins0]
    cases regOf y <;> simp [Ins.kind, Ins.b, Ins.n]
    cases regOf z <;> simp [Ins.a, Ins.key]
  · rw [placesT_5]
    rcases l with _ | ⟨x, _ | ⟨y, _ | ⟨z, _ | ⟨u, l⟩⟩⟩⟩ <;> simp [fillG, fillStep_word, fillStep_A, fillStep_B, ins0]
    cases regOf y <;> simp [Ins.kind, Ins.b, Ins.n]
    cases regOf z <;> simp [Ins.a, Ins.key]
  · rw [placesT_6]
    rcases l with _ | ⟨x, _ | ⟨y, _ | ⟨z, _ | ⟨u, l⟩⟩⟩⟩ <;> simp [fillG, fillStep_word, fillStep_A, fillStep_K, ins0]
    cases regOf y <;> simp [Ins.kind, Ins.b, Ins.n]
  · rw [placesT_7]
    rcases l with _ | ⟨x, _ | ⟨y, _ | ⟨z, l⟩⟩⟩ <;> simp [fillG, fillStep_word, fillStep_K, ins0]
  · rw [placesT_8]
    rcases l with _ | ⟨x, _ | ⟨y, _ | ⟨z, _ | ⟨u, l⟩⟩⟩⟩ <;> simp [fillG, fillStep_word, fillStep_A, fillStep_N, ins0]
    cases regOf y <;> simp [Ins.kind, Ins.b, Ins.n]
    cases numOf z <;> simp [Ins.a, Ins.key]
  · rw [placesT_9]
    rcases l with _ | ⟨x, _ | ⟨y, _ | ⟨z, l⟩⟩⟩ <;> simp [fillG, fillStep_word, fillStep_A, ins0]
    cases regOf y <;> simp [Ins.kind, Ins.b, Ins.n]
theorem read_none {l : List T} (hk : kindOf (l.headD []) = 0) : readIns l = (1, default) := by
  unfold readIns; rw [hk]; rfl
end Go.Proofs.YtagangiilcicpaeGreatDoor

namespace Go.Proofs.YtagangiilcicpaeGreatDoor
open Go.RowKit

theorem take_snoc (s : ByteArray) (k : Nat) (h : k < s.size) : s.data.toList.take (k + 1) = s.data.toList.take k ++ [s[k]] := by
  rw [List.take_succ_eq_append_getElem (by simpa using h)]; rfl
theorem all_snoc (l : List UInt8) (c : UInt8) : (l ++ [c]).all okc = (l.all okc && okc c) := by simp
theorem ret_bool {a b : Bool} (h : a = b) : Ending.returned (.bool a) = .returned (.bool b) := by rw [h]
theorem all_take {l : List UInt8} {k : Nat} (h : (l.take k).all okc = false) : l.all okc = false := by
  rw [← List.take_append_drop k l, List.all_append, h]; rfl

theorem key_bad (s : ByteArray) (k : Nat) (hlt : k < s.size) (HK : Hid (keyB s = s.data.toList.all okc)) (HS : Hid ((s.data.toList.take (k + 1)).all okc = okc s[k]))
    (h : (s[k].toNat : Int) < 97 ∨ 122 < (s[k].toNat : Int)) : keyB s = false := by
  have ho : okc s[k] = false := by simp [okc]; omega
  rw [HK.out]; exact all_take (k := k + 1) (by rw [HS.out, ho])
theorem key_good (s : ByteArray) (k : Nat) (hlt : k < s.size) (HS : Hid ((s.data.toList.take (k + 1)).all okc = okc s[k]))
    (h1 : 97 ≤ (s[k].toNat : Int)) (h2 : (s[k].toNat : Int) ≤ 122) : Hid ((s.data.toList.take (k + 1)).all okc = true) := by
  show _ = _
  rw [HS.out]; simp [okc]; omega

set_option maxHeartbeats 400000 in
theorem key_calls (s : ByteArray) (w : World) (hs : s.size ≤ maxLen) :
    Calls Tryz.prog 103 #[.string s] w fun e w' => e = .returned (.bool (keyB s)) ∧ w = w' := by
  unfold maxLen at hs
  by_cases h1 : s.size < 1
  · have hb : Hid (keyB s = false) := by show _ = _; simp [keyB]; omega
    go_enter Tryz.func103, Tryz.ntmps103
    go_wp2
    go_ret
    exact ⟨ret_bool hb.out.symm, rfl⟩
  by_cases h2 : s.size > 6
  · have hb : Hid (keyB s = false) := by show _ = _; simp [keyB]; omega
    go_enter Tryz.func103, Tryz.ntmps103
    go_wp2
    go_ret
    exact ⟨ret_bool hb.out.symm, rfl⟩
  have hk : keyB s = s.data.toList.all okc := by simp [keyB]; omega
  have HK : Hid (keyB s = s.data.toList.all okc) := hk
  clear hk
  go_enter Tryz.func103, Tryz.ntmps103
  go_wp2
  go_loop [14] (fun i => ∃ k : Nat, k ≤ s.size ∧ i = .int .i64 k ∧ Hid ((s.data.toList.take k).all okc = true)) (fun i => s.size - (intOf i).toNat)
  case atStart => exact ⟨0, Nat.zero_le _, rfl, rfl⟩
  case round =>
    obtain ⟨k, hk, rfl, HA⟩ := hrel
    by_cases hlt : k < s.size
    · have HS : Hid ((s.data.toList.take (k + 1)).all okc = okc s[k]) := by
        show _ = _
        rw [take_snoc s k hlt, all_snoc, HA.out]; rfl
      go_wp2
      · go_ret
        exact ⟨ret_bool (key_bad s k hlt HK HS (.inr (by omega))).symm, rfl⟩
      · go_round
        case rel => exact ⟨k + 1, by omega, by go_num, key_good s k hlt HS (by omega) (by omega)⟩
        case measure => simp [intOf]; omega
      · go_ret
        exact ⟨ret_bool (key_bad s k hlt HK HS (.inl (by omega))).symm, rfl⟩
    · go_wp2
      go_ret
      exact ⟨ret_bool (by rw [HK.out, ← HA.out, List.take_of_length_le (by simp; omega)]), rfl⟩

theorem keyB_off (s : ByteArray) (h : s.data.toList.all okc = false) : keyB s = false := by simp [keyB, h]

set_option maxHeartbeats 400000 in
theorem refKey_calls (s : ByteArray) (w : World) (hs : s.size ≤ maxLen) :
    Calls Tryz.prog 52 #[.string s] w fun e w' => e = .returned (.bool (keyB s)) ∧ w = w' := by
  unfold maxLen at hs
  go_enter Tryz.func52, Tryz.ntmps52
  go_wp2
  go_loop [6] (fun i => ∃ k : Nat, k ≤ s.size ∧ i = .int .i64 k ∧ Hid ((s.data.toList.take k).all okc = true)) (fun i => s.size - (intOf i).toNat)
  case atStart => exact ⟨0, Nat.zero_le _, rfl, rfl⟩
  case round =>
    obtain ⟨k, hk, rfl, HA⟩ := hrel
    by_cases hlt : k < s.size
    · have HS : Hid ((s.data.toList.take (k + 1)).all okc = okc s[k]) := by
        show _ = _
        rw [take_snoc s k hlt, all_snoc, HA.out]; rfl
      go_wp2
      · go_ret
        exact ⟨ret_bool (keyB_off s (all_take (k := k + 1) (by rw [HS.out]; simp [okc]; omega))).symm, rfl⟩
      · go_round
        case rel => exact ⟨k + 1, by omega, by go_num, key_good s k hlt HS (by omega) (by omega)⟩
        case measure => simp [intOf]; omega
      · go_ret
        exact ⟨ret_bool (keyB_off s (all_take (k := k + 1) (by rw [HS.out]; simp [okc]; omega))).symm, rfl⟩
    · have HF : Hid (s.data.toList.all okc = true) := by
        show _ = _
        rw [← HA.out, List.take_of_length_le (by simp; omega)]
      go_wp2
      all_goals
        go_ret
        exact ⟨ret_bool (by rw [keyB, HF.out, Bool.eq_iff_iff]; simp; omega), rfl⟩

theorem round_calls (n : Int) (w : World)  :
    Calls Tryz.prog 156 #[.int .i64 n] w fun e w' => e = .returned (.int .i64 (n.tmod 1073741825)) ∧ w = w' := by
  go_enter Tryz.func156, Tryz.ntmps156
  go_wp2
  go_ret
  exact ⟨rfl, rfl⟩
theorem ret_int {k : IntKind} {a b : Int} (h : a = b) : Ending.returned (.int k a) = .returned (.int k b) := by rw [h]
end Go.Proofs.YtagangiilcicpaeGreatDoor

namespace Go.Proofs.YtagangiilcicpaeGreatDoor
open Go.RowKit

theorem hid {p : Prop} (h : p) : Hid p := h

/-- The two cells of row i, at block b from off on, hold the list's row i. -/
def Cells (w : World) (b off : Nat) (l : List Row) : Prop :=
  ∀ i, i < l.length → w.cell? ⟨b, off + i * 2, none⟩ = some (.string (l.getD i default).1) ∧ w.cell? ⟨b, off + i * 2 + 1, none⟩ = some (.int .i64 (l.getD i default).2)

/-- A slice with this address holds the rows l (of no rows nothing is asked). -/
def Seg (w : World) (base : Option Addr) (l : List Row) : Prop :=
  l = [] ∨ ∃ b off, base = some ⟨b, off, none⟩ ∧ Cells w b off l

/-- Keys' lengths fit. -/
def Small (l : List Row) : Prop := ∀ x ∈ l, x.1.size ≤ maxLen

theorem Cells.lt {w : World} {b off : Nat} {l : List Row} (h : Cells w b off l) (hl : 0 < l.length) : b < w.heap.size := by
  have := (h 0 hl).1
  simpa using World.block_lt_of_cell? _ _ this

theorem Cells.below {w w' : World} {b off B : Nat} {l : List Row} (h : Cells w b off l) (hb : Below B w w') (hB : b < B) : Cells w' b off l := fun i hi => by
  rw [hb.cell (p := ⟨b, off + i * 2, none⟩) hB, hb.cell (p := ⟨b, off + i * 2 + 1, none⟩) hB]
  exact h i hi

theorem Seg.below {w w' : World} {base : Option Addr} {l : List Row} (h : Seg w base l) (hb : Below w.heap.size w w') : Seg w' base l := by
  rcases h with h | ⟨b, off, e, hc⟩
  · exact .inl h
  · by_cases hl : 0 < l.length
    · exact .inr ⟨b, off, e, hc.below hb (hc.lt hl)⟩
    · exact .inl (List.eq_nil_of_length_eq_zero (by omega))

theorem small_getD {l : List Row} (h : Small l) {i : Nat} (hi : i < l.length) : (l.getD i default).1.size ≤ maxLen := h _ (mem_getD hi)

end Go.Proofs.YtagangiilcicpaeGreatDoor

namespace Go.Proofs.YtagangiilcicpaeGreatDoor
open Go.RowKit

theorem cell_box (w : World) (v : Value) (t : TypeId) : (w.alloc (.cells #[v] t)).cell? ⟨w.heap.size, 0, none⟩ = some v := by
  rw [World.cell?_alloc_at _ _ _ _ (by simp)]; rfl
theorem cell_past {w : World} {b x : Nat} {v : Value} (o : Obj) (h : w.cell? ⟨b, x, none⟩ = some v) : (w.alloc o).cell? ⟨b, x, none⟩ = some v := by
  have hb := World.block_lt_of_cell? _ _ h
  rw [World.cell?_alloc_past _ _ _ hb]; exact h
theorem cell_drewN {w : World} {a : Addr} {v : Value} (q : Nat) (h : w.cell? a = some v) : (w.drewN q).cell? a = some v := h

end Go.Proofs.YtagangiilcicpaeGreatDoor

namespace Go.Proofs.YtagangiilcicpaeGreatDoor
open Go.RowKit

/-- A slice's head: its length within its capacity; nil has none. -/
structure Hdr (base : Option Addr) (n c : Nat) : Prop where
  le : n ≤ c
  max : c ≤ maxLen
  nil : base = none → c = 0

/-- A slice holds the rows l. -/
structure Holds (w : World) (base : Option Addr) (n c : Nat) (l : List Row) : Prop where
  len : n = l.length
  seg : Seg w base l
  hdr : Hdr base n c

theorem Holds.below {w w' : World} {base : Option Addr} {n c : Nat} {l : List Row} (h : Holds w base n c l) (hb : Below w.heap.size w w') : Holds w' base n c l := ⟨h.len, h.seg.below hb, h.hdr⟩
theorem Holds.empty (w : World) {base : Option Addr} {n c : Nat} {l : List Row} (hl : n = l.length) (h : n = 0) (hh : Hdr base n c) : Holds w base n c l := ⟨hl, .inl (List.eq_nil_of_length_eq_zero (by omega)), hh⟩
theorem Holds.cells {w : World} {b o n c : Nat} {l : List Row} (hl : n = l.length) (h : Cells w b o l) (h1 : n ≤ c) (h2 : c ≤ maxLen) : Holds w (some ⟨b, o, none⟩) n c l := ⟨hl, .inr ⟨b, o, rfl, h⟩, ⟨h1, h2, fun h => by cases h⟩⟩

end Go.Proofs.YtagangiilcicpaeGreatDoor

namespace Go.Proofs.YtagangiilcicpaeGreatDoor
open Go.RowKit

/-- The cells of rows. -/
def rowCells : List Row → List Value
  | [] => []
  | x :: l => .string x.1 :: .int .i64 x.2 :: rowCells l

theorem rowCells_append : ∀ l m, rowCells (l ++ m) = rowCells l ++ rowCells m
  | [], _ => rfl
  | x :: l, m => by simp [rowCells, rowCells_append l m]
theorem rowCells_length : ∀ l, (rowCells l).length = l.length * 2
  | [] => rfl
  | x :: l => by simp [rowCells, rowCells_length l]; omega
theorem rowCells_one : ∀ l, ∀ u ∈ rowCells l, u.oneCell' = true
  | [], _, h => by cases h
  | x :: l, u, h => by
    simp only [rowCells, List.mem_cons] at h
    rcases h with rfl | rfl | h
    · rfl
    · rfl
    · exact rowCells_one l u h
theorem rowCells_at : ∀ (l : List Row) (i : Nat), i < l.length → (rowCells l)[i * 2]? = some (.string (l.getD i default).1) ∧ (rowCells l)[i * 2 + 1]? = some (.int .i64 (l.getD i default).2)
  | [], i, h => absurd h (Nat.not_lt_zero _)
  | x :: l, 0, _ => by simp [rowCells]
  | x :: l, i + 1, h => by
    have := rowCells_at l i (by simpa using h)
    rw [show (i + 1) * 2 = i * 2 + 1 + 1 from by omega]
    simpa [rowCells] using this

theorem cells_of_rowCells {w : World} {b o : Nat} {l : List Row} (h : ∀ j u, (rowCells l)[j]? = some u → w.cell? ((⟨b, o, none⟩ : Addr).add j) = some u) : Cells w b o l := fun i hi => by
  have h1 := h _ _ (rowCells_at l i hi).1
  have h2 := h _ _ (rowCells_at l i hi).2
  rw [Addr.add_lit] at h1 h2
  exact ⟨h1, by rw [Nat.add_assoc]; exact h2⟩
theorem pairInfo : (Tryz.prog.info? 81).map (fun i => (i.zero, i.size, i.bytes)) = some (some (.agg #[.string ByteArray.empty, .int .i64 0]), 2, 24) := by kernel_rfl

/-- What a row that the call owns holds. -/
theorem holds_of_owned {w : World} {B n : Nat} {v : Value} {l : List Row} (h : w.ownsRow B 81 2 v n (rowCells l)) : ∃ base c, v = .slice base n c ∧ Holds w base n c l := by
  have hl : n = l.length := by have := h.1; rw [rowCells_length] at this; omega
  rcases h.2 with ⟨rfl, rfl⟩ | ⟨g, cap, cur, rfl, _, _, hnc, hcm, _, _⟩
  · exact ⟨none, 0, rfl, Holds.empty w hl rfl ⟨Nat.le_refl _, Nat.zero_le _, fun _ => rfl⟩⟩
  · exact ⟨some ⟨g, 0, none⟩, cap, rfl, Holds.cells hl (cells_of_rowCells (h.cells rfl)) hnc hcm⟩

/-- The memory of a slice is of elements of the type t. -/
def Kind (w : World) (t : TypeId) (base : Option Addr) : Prop := ∀ a, base = some a → ∃ cur z, w.heap[a.block]? = some (.cells cur t z)
theorem Kind.none (w : World) (t : TypeId) : Kind w t none := fun _ h => by cases h
theorem Kind.below {w w' : World} {t : TypeId} {base : Option Addr} (h : Kind w t base) (hb : Below w.heap.size w w') : Kind w' t base := fun a e => by
  obtain ⟨cur, z, hc⟩ := h a e
  exact ⟨cur, z, by rw [hb.block a.block (Array.getElem?_eq_some_iff.1 hc).1]; exact hc⟩
theorem Kind.set {w : World} {t : TypeId} {base : Option Addr} (h : Kind w t base) (p : Addr) (u : Value) : Kind (w.setCell p u) t base := fun a e => by
  obtain ⟨cur, z, hc⟩ := h a e
  by_cases hp : a.block = p.block
  · simp only [World.setCell, Array.getElem?_modify]
    rw [if_pos hp.symm, hc]
    simp only [Option.map_some]
    split
    · exact ⟨_, _, rfl⟩
    · exact ⟨_, _, rfl⟩
  · exact ⟨cur, z, by rw [Below.heap_setCell _ _ _ _ hp]; exact hc⟩
theorem Kind.owned {w : World} {B t s n : Nat} {base : Option Addr} {c : Nat} {xs : List Value} (h : w.ownsRow B t s (.slice base n c) n xs) : Kind w t base := fun a e => by
  rcases h.2 with ⟨h', _⟩ | ⟨g, cap, cur, h', _, hg, _⟩
  · simp at h'; rw [h'.1] at e; cases e
  · simp at h'; rw [h'.1] at e; cases e; exact ⟨cur, _, hg⟩

end Go.Proofs.YtagangiilcicpaeGreatDoor

namespace Go.Proofs.YtagangiilcicpaeGreatDoor
open Go.RowKit

/-- From block b, place o on lie these values. -/
def Run (w : World) (b o : Nat) (vs : List Value) : Prop := ∀ j u, vs[j]? = some u → w.cell? ⟨b, o + j, none⟩ = some u

/-- A slice of n elements, of sz cells each, holds these values. -/
structure Lies (w : World) (sz : Nat) (base : Option Addr) (n c : Nat) (vs : List Value) : Prop where
  len : vs.length = n * sz
  hdr : Hdr base n c
  run : n = 0 ∨ ∃ b o, base = some ⟨b, o, none⟩ ∧ Run w b o vs

theorem Run.lt {w : World} {b o : Nat} {vs : List Value} (h : Run w b o vs) (hl : 0 < vs.length) : b < w.heap.size := by
  have := h 0 vs[0] (by simp [hl])
  simpa using World.block_lt_of_cell? _ _ this
theorem Run.below {w w' : World} {b o B : Nat} {vs : List Value} (h : Run w b o vs) (hb : Below B w w') (hB : b < B) : Run w' b o vs := fun j u hu => by
  rw [hb.cell (p := ⟨b, o + j, none⟩) hB]; exact h j u hu
theorem Lies.below {w w' : World} {sz : Nat} (hsz : 0 < sz) {base : Option Addr} {n c : Nat} {vs : List Value} (h : Lies w sz base n c vs) (hb : Below w.heap.size w w') : Lies w' sz base n c vs := by
  refine ⟨h.len, h.hdr, ?_⟩
  rcases h.run with h0 | ⟨b, o, e, hr⟩
  · exact .inl h0
  · by_cases h0 : n = 0
    · exact .inl h0
    · refine .inr ⟨b, o, e, hr.below hb (hr.lt ?_)⟩
      rw [h.len]
      exact Nat.mul_pos (by omega) hsz
theorem Lies.none (w : World) (sz : Nat) : Lies w sz none 0 0 [] := ⟨by simp, ⟨Nat.le_refl _, Nat.zero_le _, fun _ => rfl⟩, .inl rfl⟩

/-- What a row that the call owns holds. -/
theorem Lies.owned {w : World} {B e sz n : Nat} {v : Value} {vs : List Value} (h : w.ownsRow B e sz v n vs) : ∃ base c, v = .slice base n c ∧ Lies w sz base n c vs := by
  have hl := h.1
  rcases h.2 with ⟨rfl, rfl⟩ | ⟨g, cap, cur, rfl, _, _, hnc, hcm, _, _⟩
  · exact ⟨_, 0, rfl, ⟨hl, ⟨Nat.le_refl _, Nat.zero_le _, fun _ => rfl⟩, .inl rfl⟩⟩
  · refine ⟨some ⟨g, 0, Option.none⟩, cap, rfl, ⟨hl, ⟨hnc, hcm, fun h => by cases h⟩, .inr ⟨g, 0, rfl, fun j u hu => ?_⟩⟩⟩
    have := h.cells rfl j u hu
    rwa [Addr.add_lit] at this

/-- An append of what lies anywhere onto a row that the call owns: e is the elements' type, t the slices'. -/
theorem wpList_onto (w : World) {ops : Array Oper} {rest : List Oper} {o : Oper} {a : Act} {Q : Exit → Act → World → Prop} (hgd : o.guard = Option.none) (s x : Operand) (t e sz bytes : Nat) (z : Value)
    (hu : Tryz.prog.underlying t = some (.slice e)) (hinfo : (Tryz.prog.info? e).map (fun i => (i.zero, i.size, i.bytes)) = some (some z, sz, bytes)) (hzc : z.cells.size = sz) (hsz : 0 < sz) (hby : 0 < bytes)
    (ho : o.op = .call { callee := .builtin .append, args := #[s, x], argTypes := #[t, t] })
    (B : Nat) (v : Value) (n : Nat) (l : List Value) (hs : a.eval s = v) (hown : w.ownsRow B e sz v n l) (base : Option Addr) (m c : Nat) (l2 : List Value) (hx : a.eval x = .slice base m c) (hh : Lies w sz base m c l2) (hone : ∀ u ∈ l2, u.oneCell' = true)
    (hbytes : (n + m) * bytes ≤ 140737488355328) (hB : B ≤ w.heap.size)
    (h : ∀ v' w', w'.ownsRow B e sz v' (n + m) (l ++ l2) → w.grownBy w' v.ownBlock → wpList Tryz.prog ops Q rest (a.put o.dst v') w') : wpList Tryz.prog ops Q (o :: rest) a w := by
  obtain ⟨i0, hi, hz0, hz1, hz2⟩ := info_parts hinfo
  have hlen := hh.len
  have h63 : n + m ≤ maxLen := by
    have := Nat.le_mul_of_pos_right (n + m) hby
    unfold maxLen; omega
  have key : ∀ ad, base = some ad → (∀ j u, l2[j]? = some u → w.cell? (ad.add j) = some u) → wpList Tryz.prog ops Q (o :: rest) a w := fun ad had hnews =>
    wpList_append_own w hgd s x t ho B e i0 _ sz bytes hu hi hz0 hz1 hz2 hzc hsz v n l hs hown ad m c l2 (by rw [hx, had]) hlen hnews hone h63 hbytes hB
      (fun v' w' h1 h2 _ => h v' w' h1 h2)
  cases base with
  | some ad =>
    rcases hh.run with he | ⟨b, o', he, hc⟩
    · subst he
      have : l2 = [] := List.eq_nil_of_length_eq_zero (by omega)
      exact key ad rfl (fun j u hu => by rw [this] at hu; simp at hu)
    · cases he
      exact key _ rfl (fun j u hu => by rw [Addr.add_lit]; exact hc j u hu)
  | none =>
    obtain rfl := hh.hdr.nil rfl
    obtain rfl : m = 0 := by have := hh.hdr.le; omega
    have hl2 : l2 = [] := List.eq_nil_of_length_eq_zero (by omega)
    refine wpList_plain hgd fun K hK' => ?_
    have hrun := run_append_owned_none (P := Tryz.prog) w B t o.type e i0 sz hu hi v n l hown
    unfold Oper.wp
    simp [execOp, ho, resolve, invoke, builtin, hs, hx, hrun, Result.andThen]
    exact hK' _ _ (h v w (by rw [hl2]; simpa using hown) (World.grownBy.refl _ _))

/-- Texts as cells. -/
def strs (l : List ByteArray) : List Value := l.map Value.string
theorem strs_length (l : List ByteArray) : (strs l).length = l.length := by simp [strs]
theorem strs_at {l : List ByteArray} {i : Nat} (h : i < l.length) : (strs l)[i]? = some (.string (l.getD i default)) := by simp [strs, List.getD, h]
theorem strs_one (l : List ByteArray) : ∀ u ∈ strs l, u.oneCell' = true := fun u hu => by
  simp [strs] at hu; obtain ⟨x, _, rfl⟩ := hu; rfl
theorem strs_append (l m : List ByteArray) : strs (l ++ m) = strs l ++ strs m := by simp [strs]
abbrev Texts (w : World) (base : Option Addr) (n c : Nat) (l : List ByteArray) : Prop := Lies w 1 base n c (strs l)
theorem Texts.count {w : World} {base : Option Addr} {n c : Nat} {l : List ByteArray} (h : Texts w base n c l) : n = l.length := by have := h.len; rw [strs_length] at this; omega
theorem Texts.take {w : World} {base : Option Addr} {n c : Nat} {l : List ByteArray} (h : Texts w base n c l) {k : Nat} (hk : k ≤ n) : Texts w base k c (l.take k) := by
  have hn := Texts.count h
  refine ⟨by rw [strs_length]; simp; omega, ⟨Nat.le_trans hk h.hdr.le, h.hdr.max, h.hdr.nil⟩, ?_⟩
  rcases h.run with h0 | ⟨b, o, e, hr⟩
  · exact .inl (by omega)
  · refine .inr ⟨b, o, e, fun j u hu => hr j u ?_⟩
    simp [strs, List.getElem?_take] at hu ⊢
    exact hu.2
theorem strInfo : (Tryz.prog.info? 9).map (fun i => (i.zero, i.size, i.bytes)) = some (some (.string ByteArray.empty), 1, 16) := by kernel_rfl
end Go.Proofs.YtagangiilcicpaeGreatDoor
