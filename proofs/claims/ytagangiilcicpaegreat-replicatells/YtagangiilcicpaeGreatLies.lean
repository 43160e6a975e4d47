/-
  Plain mathematics of rows, with no program in sight: the order of keys, what a key has in a list of rows, putting and dropping a key, and when rows are right.
  Key of the program and of the document's answer tell the same keys; Round tells what is left.
  What it means that a slice in memory holds rows, and that this stands while other memory grows.
  find of the program: the place of a key in rows that rise, and whether it is there; so around and Get.
  around and Get of the program, of rows that rise.
  How an argument that is rows is read: some list of rows lies there, within the reach of the form.
  slices.Concat over rows: the rows one behind the other, in new memory.
  What it means that a slice in memory holds cells, of whatever type, and how an append onto a row of the call's own goes.
-/
import Derived.WalkKit
import Derived.Test.YtagangiilcicpaeGreatChecked
import Derived.WalkSpells
import Derived.WalkLawsBesides
import Derived.Below
import Derived.LoopTactic
import Derived.Outline
import Derived.BigQuiet
import Derived.Deep.QuietTactic
import Derived.Test.YtagangiilcicpaeGreatRows
import Derived.Deep.SlicePairs
import Derived.ProofKit
import Derived.SizedLaws
import Derived.Carry
import Derived.OwnWalk
import Derived.Lib.AppendZerosOnto
import Derived.Laws.AppendOwn
namespace Go.Proofs.YtagangiilcicpaeGreat

/-- A row: a key and its number. -/
abbrev Row := ByteArray × Int

/-- Go's order of strings. -/
def less (a b : ByteArray) : Bool := Op.bytesLess a.toList b.toList

theorem bytesLess_lt : ∀ (x y : List UInt8), Op.bytesLess x y = decide (x < y)
  | [], [] => by simp [Op.bytesLess]
  | _ :: _, [] => by simp [Op.bytesLess]
  | [], _ :: _ => by simp [Op.bytesLess]
  | a :: x, b :: y => by
    rw [Op.bytesLess, bytesLess_lt x y]
    simp only [List.cons_lt_cons_iff]
    by_cases h1 : a < b <;> by_cases h2 : a = b <;> by_cases h3 : x < y <;> simp [h1, h2, h3]

theorem toList_inj {a b : ByteArray} (h : a.toList = b.toList) : a = b := by
  rw [ByteArray.toList_eq, ByteArray.toList_eq] at h
  cases a; cases b
  simpa using h

theorem less_def (a b : ByteArray) : less a b = decide (a.toList < b.toList) := bytesLess_lt _ _

theorem less_irrefl (a : ByteArray) : less a a = false := by
  rw [less_def]; simp [List.lt_irrefl]

theorem less_trans {a b c : ByteArray} (h : less a b = true) (k : less b c = true) : less a c = true := by
  rw [less_def] at *
  simp only [decide_eq_true_eq] at *
  exact List.lt_trans h k

theorem less_asymm {a b : ByteArray} (h : less a b = true) : less b a = false := by
  cases k : less b a with
  | false => rfl
  | true => have := less_trans h k; rw [less_irrefl] at this; cases this

theorem less_tri {a b : ByteArray} (h : less a b = false) (k : less b a = false) : a = b := by
  rw [less_def] at *
  simp only [decide_eq_false_iff_not] at *
  exact toList_inj (List.le_antisymm (by simpa using k) (by simpa using h))

theorem less_ne {a b : ByteArray} (h : less a b = true) : a ≠ b := by
  rintro rfl; rw [less_irrefl] at h; cases h

/-- One key, or less, or more. -/
theorem less_cases (a b : ByteArray) : less a b = true ∨ a = b ∨ less b a = true := by
  cases h : less a b with
  | true => exact .inl rfl
  | false => cases k : less b a with
    | true => exact .inr (.inr rfl)
    | false => exact .inr (.inl (less_tri h k))

/-! ### Putting and dropping -/
/-- The rows with key k, which has n. -/
def ins (k : ByteArray) (n : Int) : List Row → List Row
  | [] => [(k, n)]
  | x :: l => if less x.1 k then x :: ins k n l else if less k x.1 then (k, n) :: x :: l else (k, n) :: l
/-- The rows without key k. -/
def del (k : ByteArray) : List Row → List Row
  | [] => []
  | x :: l => if less x.1 k then x :: del k l else if less k x.1 then x :: l else l
/-- Where k stands, or would stand. -/
def pos (k : ByteArray) : List Row → Nat
  | [] => 0
  | x :: l => if less x.1 k then pos k l + 1 else 0
/-- Is k there, at its place? -/
def isAt (k : ByteArray) : List Row → Bool
  | [] => false
  | x :: l => if less x.1 k then isAt k l else !less k x.1
/-- What k has; 0 where it has nothing. -/
def num (k : ByteArray) : List Row → Int
  | [] => 0
  | x :: l => if less x.1 k then num k l else if less k x.1 then 0 else x.2
/-- Rows that rise. -/
def Srt (l : List Row) : Prop := l.Pairwise (fun x y => less x.1 y.1 = true)

theorem ins_length (k : ByteArray) (n : Int) : ∀ l, (ins k n l).length ≤ l.length + 1
  | [] => by simp [ins]
  | x :: l => by
    have := ins_length k n l
    rw [ins]; split
    · simp; omega
    · split <;> simp
theorem del_length (k : ByteArray) : ∀ l, (del k l).length ≤ l.length
  | [] => by simp [del]
  | x :: l => by
    have := del_length k l
    rw [del]; split
    · simp; omega
    · split <;> simp

/-! ### Two keys, either way -/
theorem srt_cons {x : Row} {l : List Row} : Srt (x :: l) ↔ (∀ y ∈ l, less x.1 y.1 = true) ∧ Srt l := List.pairwise_cons

/-! ### Order is kept -/
theorem mem_ins {k : ByteArray} {n : Int} {y : Row} : ∀ {l}, y ∈ ins k n l → y = (k, n) ∨ y ∈ l
  | [], h => by simp [ins] at h; exact .inl h
  | x :: l, h => by
    rw [ins] at h
    split at h
    · rcases List.mem_cons.1 h with rfl | h
      · exact .inr (by simp)
      · rcases mem_ins h with h | h
        · exact .inl h
        · exact .inr (by simp [h])
    · split at h
      · rcases List.mem_cons.1 h with h | h
        · exact .inl h
        · exact .inr h
      · rcases List.mem_cons.1 h with h | h
        · exact .inl h
        · exact .inr (by simp [h])
theorem mem_del {k : ByteArray} {y : Row} : ∀ {l}, y ∈ del k l → y ∈ l
  | [], h => by simp [del] at h
  | x :: l, h => by
    rw [del] at h
    split at h
    · rcases List.mem_cons.1 h with rfl | h
      · simp
      · simp [mem_del h]
    · split at h
      · exact h
      · simp [h]

theorem srt_ins {k : ByteArray} {n : Int} : ∀ {l}, Srt l → Srt (ins k n l)
  | [], _ => by simp [ins, Srt]
  | x :: l, hs => by
    obtain ⟨hx, hl⟩ := srt_cons.1 hs
    rw [ins]
    rcases less_cases x.1 k with h | h | h
    · rw [if_pos h]
      refine srt_cons.2 ⟨fun y hy => ?_, srt_ins hl⟩
      rcases mem_ins hy with rfl | hy
      · exact h
      · exact hx y hy
    · rw [if_neg (by rw [h]; simp [less_irrefl]), if_neg (by rw [h]; simp [less_irrefl])]
      exact srt_cons.2 ⟨fun y hy => by have := hx y hy; rwa [h] at this, hl⟩
    · rw [if_neg (by simp [less_asymm h]), if_pos h]
      refine srt_cons.2 ⟨fun y hy => ?_, hs⟩
      rcases List.mem_cons.1 hy with rfl | hy
      · exact h
      · exact less_trans h (hx y hy)
theorem srt_del {k : ByteArray} : ∀ {l}, Srt l → Srt (del k l)
  | [], h => by simpa [del] using h
  | x :: l, hs => by
    obtain ⟨hx, hl⟩ := srt_cons.1 hs
    rw [del]
    split
    · exact srt_cons.2 ⟨fun y hy => hx y (mem_del hy), srt_del hl⟩
    · split
      · exact hs
      · exact hl

/-! ### What keys have behind it -/
theorem isAt_ins (k : ByteArray) (n : Int) : ∀ l, isAt k (ins k n l) = true
  | [] => by simp [ins, isAt, less_irrefl]
  | x :: l => by
    rw [ins]
    cases h : less x.1 k with
    | true => simp [isAt, h, isAt_ins k n l]
    | false => cases h2 : less k x.1 <;> simp [isAt, less_irrefl]
theorem num_ins (k : ByteArray) (n : Int) : ∀ l, num k (ins k n l) = n
  | [] => by simp [ins, num, less_irrefl]
  | x :: l => by
    rw [ins]
    cases h : less x.1 k with
    | true => simp [num, h, num_ins k n l]
    | false => cases h2 : less k x.1 <;> simp [num, less_irrefl]
theorem isAt_front {k : ByteArray} {l : List Row} (h : ∀ y ∈ l, less k y.1 = true) : isAt k l = false ∧ num k l = 0 := by
  cases l with
  | nil => exact ⟨rfl, rfl⟩
  | cons y l =>
    have hy := h y (by simp)
    simp [isAt, num, hy, less_asymm hy]
theorem isAt_del (k : ByteArray) : ∀ l, Srt l → isAt k (del k l) = false
  | [], _ => rfl
  | x :: l, hs => by
    obtain ⟨hx, hl⟩ := srt_cons.1 hs
    rw [del]
    rcases less_cases x.1 k with h | h | h
    · simp [isAt, h, isAt_del k l hl]
    · rw [h]
      simp only [less_irrefl]
      exact (isAt_front fun y hy => by have := hx y hy; rwa [h] at this).1
    · simp [isAt, h, less_asymm h]

theorem other_ins {k o : ByteArray} (n : Int) (hko : o ≠ k) : ∀ l, Srt l → isAt o (ins k n l) = isAt o l ∧ num o (ins k n l) = num o l
  | [], _ => by
    rcases less_cases k o with h | h | h
    · simp [ins, isAt, num, h]
    · exact absurd h.symm hko
    · simp [ins, isAt, num, h, less_asymm h]
  | x :: l, hs => by
    obtain ⟨hx, hl⟩ := srt_cons.1 hs
    have ih := other_ins n hko l hl
    rcases less_cases x.1 k with h | h | h
    · simp only [ins, h, if_true, isAt, num]
      rw [ih.1, ih.2]; exact ⟨rfl, rfl⟩
    · rcases less_cases k o with g | g | g
      · simp [ins, isAt, num, h, less_irrefl, g]
      · exact absurd g.symm hko
      · simp [ins, isAt, num, h, less_irrefl, g, less_asymm g]
    · rcases less_cases k o with g | g | g
      · simp [ins, isAt, num, h, less_asymm h, g]
      · exact absurd g.symm hko
      · have := less_trans g h
        simp [ins, isAt, num, h, less_asymm h, g, less_asymm g, this, less_asymm this]

theorem other_del {k o : ByteArray} (hko : o ≠ k) : ∀ l, Srt l → isAt o (del k l) = isAt o l ∧ num o (del k l) = num o l
  | [], _ => ⟨rfl, rfl⟩
  | x :: l, hs => by
    obtain ⟨hx, hl⟩ := srt_cons.1 hs
    have ih := other_del hko l hl
    rcases less_cases x.1 k with h | h | h
    · simp only [del, h, if_true, isAt, num]
      rw [ih.1, ih.2]; exact ⟨rfl, rfl⟩
    · rcases less_cases k o with g | g | g
      · simp [del, isAt, num, h, less_irrefl, g]
      · exact absurd g.symm hko
      · have hf := isAt_front (k := o) (l := l) fun y hy => by have := hx y hy; rw [h] at this; exact less_trans g this
        simp [del, isAt, num, h, less_irrefl, g, less_asymm g, hf]
    · simp [del, h, less_asymm h]

/-! ### Keys -/
/-- A letter from a to z. -/
def okc (c : UInt8) : Bool := decide (97 ≤ (c.toNat : Int)) && decide ((c.toNat : Int) ≤ 122)
/-- A key: one to six such letters. -/
def keyB (s : ByteArray) : Bool := decide (1 ≤ s.size) && decide (s.size ≤ 6) && s.data.toList.all okc

/-! ### Right rows -/
/-- What is wrong with row i: 0 is nothing. -/
def wrongAt (l : List Row) (i : Nat) : Int :=
  if keyB (l.getD i default).1 = false then 7
  else if 0 < i ∧ less (l.getD (i - 1) default).1 (l.getD i default).1 = false then 2
  else if (l.getD i default).2 < -1073741824 ∨ 1073741824 < (l.getD i default).2 then 3 else 0
/-- What is wrong with the first k rows. -/
def wrongTo (l : List Row) : Nat → Int
  | 0 => 0
  | k + 1 => if wrongTo l k = 0 then wrongAt l k else wrongTo l k
/-- What is wrong with rows. -/
def wrong (l : List Row) : Int := wrongTo l l.length

theorem wrongTo_all {l : List Row} {k : Nat} (h : wrongTo l k = 0) : ∀ i, i < k → wrongAt l i = 0 := by
  induction k with
  | zero => intro i hi; omega
  | succ k ih =>
    rw [wrongTo] at h
    by_cases h0 : wrongTo l k = 0
    · rw [if_pos h0] at h
      intro i hi
      by_cases e : i = k
      · rw [e]; exact h
      · exact ih h0 i (by omega)
    · rw [if_neg h0] at h; exact absurd h h0
/-- Right: keys, in order, within range. -/
structure Right (l : List Row) : Prop where
  srt : Srt l
  key : ∀ x ∈ l, keyB x.1 = true
  lo : ∀ x ∈ l, -1073741824 ≤ x.2
  hi : ∀ x ∈ l, x.2 ≤ 1073741824

theorem wrongAt_zero {l : List Row} {i : Nat} : wrongAt l i = 0 ↔ keyB (l.getD i default).1 = true ∧ (0 < i → less (l.getD (i - 1) default).1 (l.getD i default).1 = true) ∧ -1073741824 ≤ (l.getD i default).2 ∧ (l.getD i default).2 ≤ 1073741824 := by
  unfold wrongAt
  generalize (l.getD i default).2 = m
  cases keyB (l.getD i default).1 with
  | false => simp
  | true =>
    cases less (l.getD (i - 1) default).1 (l.getD i default).1 with
    | true => simp; try omega
    | false =>
      by_cases h : 0 < i
      · simp [h]
      · simp [h]; try omega

theorem getD_of_mem {l : List Row} {x : Row} (h : x ∈ l) : ∃ i, i < l.length ∧ l.getD i default = x := by
  obtain ⟨i, hi, e⟩ := List.getElem_of_mem h
  exact ⟨i, hi, by simp [List.getD, hi, e]⟩
theorem mem_getD {l : List Row} {i : Nat} (h : i < l.length) : l.getD i default ∈ l := by
  simp [List.getD, h]

theorem right_of {l : List Row} (h : wrong l = 0) : Right l := by
  have ha : ∀ i, i < l.length → _ := fun i hi => wrongAt_zero.1 (wrongTo_all h i hi)
  have hp : ∀ d i, i + d + 1 < l.length → less (l.getD i default).1 (l.getD (i + d + 1) default).1 = true := by
    intro d
    induction d with
    | zero =>
      intro i hi
      have := (ha (i + 1) (by omega)).2.1 (by omega)
      simpa using this
    | succ d ih =>
      intro i hi
      have h1 := ih i (by omega)
      have h2 := (ha (i + (d + 1) + 1) (by omega)).2.1 (by omega)
      rw [show i + (d + 1) + 1 - 1 = i + d + 1 from by omega] at h2
      exact less_trans h1 h2
  refine ⟨List.pairwise_iff_getElem.2 fun i j hi hj hij => ?_, fun x hx => ?_, fun x hx => ?_, fun x hx => ?_⟩
  · have := hp (j - i - 1) i (by omega)
    rw [show i + (j - i - 1) + 1 = j from by omega] at this
    simpa [List.getD, hi, hj] using this
  · obtain ⟨i, hi, rfl⟩ := getD_of_mem hx; exact (ha i hi).1
  · obtain ⟨i, hi, rfl⟩ := getD_of_mem hx; exact (ha i hi).2.2.1
  · obtain ⟨i, hi, rfl⟩ := getD_of_mem hx; exact (ha i hi).2.2.2

theorem srt_getD {l : List Row} (h : Srt l) {i j : Nat} (hij : i < j) (hj : j < l.length) : less (l.getD i default).1 (l.getD j default).1 = true := by
  have := List.pairwise_iff_getElem.1 h i j (by omega) hj hij
  simpa [List.getD, hj, show i < l.length by omega] using this

theorem right_ins {k : ByteArray} {n : Int} {l : List Row} (h : Right l) (hk : keyB k = true) (h1 : -1073741824 ≤ n) (h2 : n ≤ 1073741824) : Right (ins k n l) := by
  refine ⟨srt_ins h.srt, fun x hx => ?_, fun x hx => ?_, fun x hx => ?_⟩
  · rcases mem_ins hx with rfl | hx
    · exact hk
    · exact h.key x hx
  · rcases mem_ins hx with rfl | hx
    · exact h1
    · exact h.lo x hx
  · rcases mem_ins hx with rfl | hx
    · exact h2
    · exact h.hi x hx
theorem right_del {k : ByteArray} {l : List Row} (h : Right l) : Right (del k l) :=
  ⟨srt_del h.srt, fun x hx => h.key x (mem_del hx), fun x hx => h.lo x (mem_del hx), fun x hx => h.hi x (mem_del hx)⟩

/-! ### The place that a search finds -/
theorem num_not (k : ByteArray) : ∀ l : List Row, isAt k l = false → num k l = 0
  | [], _ => rfl
  | x :: l, h => by
    rw [isAt] at h
    rw [num]
    cases h1 : less x.1 k with
    | true => simp [h1] at h; simp [num_not k l h]
    | false =>
      simp [h1] at h
      simp [h]
end Go.Proofs.YtagangiilcicpaeGreat

namespace Go.Proofs.YtagangiilcicpaeGreat
open Go.RowKit

theorem take_snoc (s : ByteArray) (k : Nat) (h : k < s.size) : s.data.toList.take (k + 1) = s.data.toList.take k ++ [s[k]] := by
  rw [List.take_succ_eq_append_getElem (by simpa using h)]; rfl
theorem all_snoc (l : List UInt8) (c : UInt8) : (l ++ [c]).all okc = (l.all okc && okc c) := by simp
theorem ret_bool {a b : Bool} (h : a = b) : Ending.returned (.bool a) = .returned (.bool b) := by rw [h]
theorem all_take {l : List UInt8} {k : Nat} (h : (l.take k).all okc = false) : l.all okc = false := by
  rw [← List.take_append_drop k l, List.all_append, h]; rfl

theorem key_bad (s : ByteArray) (k : Nat) (hlt : k < s.size) (HK : Hid (keyB s = s.data.toList.all okc)) (HS : Hid ((s.data.toList.take (k + 1)).all okc = okc s[k]))
    (h : (s[k].toNat : Int) < 97 ∨ 122 < (s[k].toNat : Int)) : keyB s = false := by
  have ho : okc s[k] = false := by simp [okc]; omega
  rw [HK.out]; exact all_take (k := k + 1) (by rw [HS.out, ho])
theorem key_good (s : ByteArray) (k : Nat) (hlt : k < s.size) (HS : Hid ((s.data.toList.take (k + 1)).all okc = okc s[k]))
    (h1 : 97 ≤ (s[k].toNat : Int)) (h2 : (s[k].toNat : Int) ≤ 122) : Hid ((s.data.toList.take (k + 1)).all okc = true) := by
  show _ = _
  rw [HS.out]; simp [okc]; omega

set_option maxHeartbeats 400000 in
theorem key_calls (s : ByteArray) (w : World) (hs : s.size ≤ maxLen) :
    Calls Tryz.prog 99 #[.string s] w fun e w' => e = .returned (.bool (keyB s)) ∧ w = w' := by
  unfold maxLen at hs
  by_cases h1 : s.size < 1
  · have hb : Hid (keyB s = false) := by show _ = _; simp [keyB]; omega
    go_enter Tryz.func99, Tryz.ntmps99
    go_wp2
    go_ret
    exact ⟨ret_bool hb.out.symm, rfl⟩
  by_cases h2 : s.size > 6
  · have hb : Hid (keyB s = false) := by show _ = _; simp [keyB]; omega
    go_enter Tryz.func99, Tryz.ntmps99
    go_wp2
    go_ret
    exact ⟨ret_bool hb.out.symm, rfl⟩
  have hk : keyB s = s.data.toList.all okc := by simp [keyB]; omega
  have HK : Hid (keyB s = s.data.toList.all okc) := hk
  clear hk
  go_enter Tryz.func99, Tryz.ntmps99
  go_wp2
  go_loop [14] (fun i => ∃ k : Nat, k ≤ s.size ∧ i = .int .i64 k ∧ Hid ((s.data.toList.take k).all okc = true)) (fun i => s.size - (intOf i).toNat)
  case atStart => exact ⟨0, Nat.zero_le _, rfl, rfl⟩
  case round =>
    obtain ⟨k, hk, rfl, HA⟩ := hrel
    by_cases hlt : k < s.size
    · have HS : Hid ((s.data.toList.take (k + 1)).all okc = okc s[k]) := by
        show _ = _
        rw [take_snoc s k hlt, all_snoc, HA.out]; rfl
      go_wp2
      · go_ret
        exact ⟨ret_bool (key_bad s k hlt HK HS (.inr (by omega))).symm, rfl⟩
      · go_round
        case rel => exact ⟨k + 1, by omega, by go_num, key_good s k hlt HS (by omega) (by omega)⟩
        case measure => simp [intOf]; omega
      · go_ret
        exact ⟨ret_bool (key_bad s k hlt HK HS (.inl (by omega))).symm, rfl⟩
    · go_wp2
      go_ret
      exact ⟨ret_bool (by rw [HK.out, ← HA.out, List.take_of_length_le (by simp; omega)]), rfl⟩

theorem keyB_off (s : ByteArray) (h : s.data.toList.all okc = false) : keyB s = false := by simp [keyB, h]

set_option maxHeartbeats 400000 in
theorem refKey_calls (s : ByteArray) (w : World) (hs : s.size ≤ maxLen) :
    Calls Tryz.prog 52 #[.string s] w fun e w' => e = .returned (.bool (keyB s)) ∧ w = w' := by
  unfold maxLen at hs
  go_enter Tryz.func52, Tryz.ntmps52
  go_wp2
  go_loop [6] (fun i => ∃ k : Nat, k ≤ s.size ∧ i = .int .i64 k ∧ Hid ((s.data.toList.take k).all okc = true)) (fun i => s.size - (intOf i).toNat)
  case atStart => exact ⟨0, Nat.zero_le _, rfl, rfl⟩
  case round =>
    obtain ⟨k, hk, rfl, HA⟩ := hrel
    by_cases hlt : k < s.size
    · have HS : Hid ((s.data.toList.take (k + 1)).all okc = okc s[k]) := by
        show _ = _
        rw [take_snoc s k hlt, all_snoc, HA.out]; rfl
      go_wp2
      · go_ret
        exact ⟨ret_bool (keyB_off s (all_take (k := k + 1) (by rw [HS.out]; simp [okc]; omega))).symm, rfl⟩
      · go_round
        case rel => exact ⟨k + 1, by omega, by go_num, key_good s k hlt HS (by omega) (by omega)⟩
        case measure => simp [intOf]; omega
      · go_ret
        exact ⟨ret_bool (keyB_off s (all_take (k := k + 1) (by rw [HS.out]; simp [okc]; omega))).symm, rfl⟩
    · have HF : Hid (s.data.toList.all okc = true) := by
        show _ = _
        rw [← HA.out, List.take_of_length_le (by simp; omega)]
      go_wp2
      all_goals
        go_ret
        exact ⟨ret_bool (by rw [keyB, HF.out, Bool.eq_iff_iff]; simp; omega), rfl⟩

theorem round_calls (n : Int) (w : World)  :
    Calls Tryz.prog 94 #[.int .i64 n] w fun e w' => e = .returned (.int .i64 (n.tmod 1073741825)) ∧ w = w' := by
  go_enter Tryz.func94, Tryz.ntmps94
  go_wp2
  go_ret
  exact ⟨rfl, rfl⟩
theorem ret_int {k : IntKind} {a b : Int} (h : a = b) : Ending.returned (.int k a) = .returned (.int k b) := by rw [h]
theorem tmod_big (n : Int) : -1073741825 < n.tmod 1073741825 ∧ n.tmod 1073741825 < 1073741825 := by
  by_cases h : 0 ≤ n
  · rw [Int.tmod_eq_emod_of_nonneg h]; omega
  · have e : n.tmod 1073741825 = -((-n).tmod 1073741825) := by rw [Int.neg_tmod]; omega
    rw [e, Int.tmod_eq_emod_of_nonneg (by omega)]; omega
theorem round_num (n : Int) : wrap64 (n - wrap64 (wrap64 (n.tdiv 1073741825) * 1073741825)) = n.tmod 1073741825 := by
  have h := Int.mul_tdiv_add_tmod n 1073741825
  have hb := tmod_big n
  generalize n.tdiv 1073741825 = q at *
  generalize n.tmod 1073741825 = r at *
  unfold wrap64
  omega
theorem refRound_calls (n : Int) (w : World) :
    Calls Tryz.prog 64 #[.int .i64 n] w fun e w' => e = .returned (.int .i64 (n.tmod 1073741825)) ∧ w = w' := by
  go_enter Tryz.func64, Tryz.ntmps64
  go_wp2
  go_ret
  exact ⟨ret_int (round_num n), rfl⟩
end Go.Proofs.YtagangiilcicpaeGreat

namespace Go.Proofs.YtagangiilcicpaeGreat
open Go.RowKit

theorem hid {p : Prop} (h : p) : Hid p := h

/-- The two cells of row i, at block b from off on, hold the list's row i. -/
def Cells (w : World) (b off : Nat) (l : List Row) : Prop :=
  ∀ i, i < l.length → w.cell? ⟨b, off + i * 2, none⟩ = some (.string (l.getD i default).1) ∧ w.cell? ⟨b, off + i * 2 + 1, none⟩ = some (.int .i64 (l.getD i default).2)

/-- A slice with this address holds the rows l (of no rows nothing is asked). -/
def Seg (w : World) (base : Option Addr) (l : List Row) : Prop :=
  l = [] ∨ ∃ b off, base = some ⟨b, off, none⟩ ∧ Cells w b off l

/-- Keys' lengths fit. -/
def Small (l : List Row) : Prop := ∀ x ∈ l, x.1.size ≤ maxLen

theorem Cells.lt {w : World} {b off : Nat} {l : List Row} (h : Cells w b off l) (hl : 0 < l.length) : b < w.heap.size := by
  have := (h 0 hl).1
  simpa using World.block_lt_of_cell? _ _ this

theorem Cells.below {w w' : World} {b off B : Nat} {l : List Row} (h : Cells w b off l) (hb : Below B w w') (hB : b < B) : Cells w' b off l := fun i hi => by
  rw [hb.cell (p := ⟨b, off + i * 2, none⟩) hB, hb.cell (p := ⟨b, off + i * 2 + 1, none⟩) hB]
  exact h i hi

theorem Seg.below {w w' : World} {base : Option Addr} {l : List Row} (h : Seg w base l) (hb : Below w.heap.size w w') : Seg w' base l := by
  rcases h with h | ⟨b, off, e, hc⟩
  · exact .inl h
  · by_cases hl : 0 < l.length
    · exact .inr ⟨b, off, e, hc.below hb (hc.lt hl)⟩
    · exact .inl (List.eq_nil_of_length_eq_zero (by omega))

theorem small_getD {l : List Row} (h : Small l) {i : Nat} (hi : i < l.length) : (l.getD i default).1.size ≤ maxLen := h _ (mem_getD hi)

end Go.Proofs.YtagangiilcicpaeGreat

namespace Go.Proofs.YtagangiilcicpaeGreat
open Go.RowKit

theorem cell_box (w : World) (v : Value) (t : TypeId) : (w.alloc (.cells #[v] t)).cell? ⟨w.heap.size, 0, none⟩ = some v := by
  rw [World.cell?_alloc_at _ _ _ _ (by simp)]; rfl
theorem cell_past {w : World} {b x : Nat} {v : Value} (o : Obj) (h : w.cell? ⟨b, x, none⟩ = some v) : (w.alloc o).cell? ⟨b, x, none⟩ = some v := by
  have hb := World.block_lt_of_cell? _ _ h
  rw [World.cell?_alloc_past _ _ _ hb]; exact h
theorem cell_drewN {w : World} {a : Addr} {v : Value} (q : Nat) (h : w.cell? a = some v) : (w.drewN q).cell? a = some v := h

end Go.Proofs.YtagangiilcicpaeGreat

namespace Go.Proofs.YtagangiilcicpaeGreat
open Go.RowKit

/-- A slice's head: its length within its capacity; nil has none. -/
structure Hdr (base : Option Addr) (n c : Nat) : Prop where
  le : n ≤ c
  max : c ≤ maxLen
  nil : base = none → c = 0

/-- A slice holds the rows l. -/
structure Holds (w : World) (base : Option Addr) (n c : Nat) (l : List Row) : Prop where
  len : n = l.length
  seg : Seg w base l
  hdr : Hdr base n c

theorem Holds.below {w w' : World} {base : Option Addr} {n c : Nat} {l : List Row} (h : Holds w base n c l) (hb : Below w.heap.size w w') : Holds w' base n c l := ⟨h.len, h.seg.below hb, h.hdr⟩
theorem Holds.empty (w : World) {base : Option Addr} {n c : Nat} {l : List Row} (hl : n = l.length) (h : n = 0) (hh : Hdr base n c) : Holds w base n c l := ⟨hl, .inl (List.eq_nil_of_length_eq_zero (by omega)), hh⟩
theorem Holds.cells {w : World} {b o n c : Nat} {l : List Row} (hl : n = l.length) (h : Cells w b o l) (h1 : n ≤ c) (h2 : c ≤ maxLen) : Holds w (some ⟨b, o, none⟩) n c l := ⟨hl, .inr ⟨b, o, rfl, h⟩, ⟨h1, h2, fun h => by cases h⟩⟩

end Go.Proofs.YtagangiilcicpaeGreat

namespace Go.Proofs.YtagangiilcicpaeGreat
open Go.ChangeShapes Go.WideShapes Go.ChangeAt Go.RowKit Go.Deep

theorem own : ownKnob Tryz.prog.godebug = none := by kernel_rfl
theorem laidOut : laidOutB Tryz.prog = true := by kernel_rfl
theorem cellsStr : Tryz.prog.cellsOf 9 = 1 := by kernel_rfl
theorem cellsInt : Tryz.prog.cellsOf 3 = 1 := by kernel_rfl

end Go.Proofs.YtagangiilcicpaeGreat

namespace Go.Proofs.YtagangiilcicpaeGreat
open Go.RowKit

/-- The cells of rows. -/
def rowCells : List Row → List Value
  | [] => []
  | x :: l => .string x.1 :: .int .i64 x.2 :: rowCells l

theorem rowCells_append : ∀ l m, rowCells (l ++ m) = rowCells l ++ rowCells m
  | [], _ => rfl
  | x :: l, m => by simp [rowCells, rowCells_append l m]
theorem rowCells_length : ∀ l, (rowCells l).length = l.length * 2
  | [] => rfl
  | x :: l => by simp [rowCells, rowCells_length l]; omega
theorem rowCells_one : ∀ l, ∀ u ∈ rowCells l, u.oneCell' = true
  | [], _, h => by cases h
  | x :: l, u, h => by
    simp only [rowCells, List.mem_cons] at h
    rcases h with rfl | rfl | h
    · rfl
    · rfl
    · exact rowCells_one l u h
theorem rowCells_at : ∀ (l : List Row) (i : Nat), i < l.length → (rowCells l)[i * 2]? = some (.string (l.getD i default).1) ∧ (rowCells l)[i * 2 + 1]? = some (.int .i64 (l.getD i default).2)
  | [], i, h => absurd h (Nat.not_lt_zero _)
  | x :: l, 0, _ => by simp [rowCells]
  | x :: l, i + 1, h => by
    have := rowCells_at l i (by simpa using h)
    rw [show (i + 1) * 2 = i * 2 + 1 + 1 from by omega]
    simpa [rowCells] using this

theorem cells_of_rowCells {w : World} {b o : Nat} {l : List Row} (h : ∀ j u, (rowCells l)[j]? = some u → w.cell? ((⟨b, o, none⟩ : Addr).add j) = some u) : Cells w b o l := fun i hi => by
  have h1 := h _ _ (rowCells_at l i hi).1
  have h2 := h _ _ (rowCells_at l i hi).2
  rw [Addr.add_lit] at h1 h2
  exact ⟨h1, by rw [Nat.add_assoc]; exact h2⟩
theorem rowCells_of_cells {w : World} {b o : Nat} {l : List Row} (h : Cells w b o l) : ∀ j u, (rowCells l)[j]? = some u → w.cell? ((⟨b, o, none⟩ : Addr).add j) = some u := fun j u hu => by
  have hj : j < l.length * 2 := by rw [← rowCells_length]; exact (List.getElem?_eq_some_iff.1 hu).1
  rw [Addr.add_lit]
  by_cases e : j % 2 = 0
  · have := rowCells_at l (j / 2) (by omega)
    rw [show j / 2 * 2 = j from by omega] at this
    rw [this.1] at hu
    have h3 := (h (j / 2) (by omega)).1
    rw [show j / 2 * 2 = j from by omega] at h3
    rw [h3]; exact hu
  · have := rowCells_at l (j / 2) (by omega)
    rw [show j / 2 * 2 + 1 = j from by omega] at this
    rw [this.2] at hu
    have h3 := (h (j / 2) (by omega)).2
    rw [show o + j / 2 * 2 + 1 = o + j from by omega] at h3
    rw [h3]; exact hu

theorem pairInfo : (Tryz.prog.info? 84).map (fun i => (i.zero, i.size, i.bytes)) = some (some (.agg #[.string ByteArray.empty, .int .i64 0]), 2, 24) := by kernel_rfl

/-- What a row that the call owns holds. -/
theorem holds_of_owned {w : World} {B n : Nat} {v : Value} {l : List Row} (h : w.ownsRow B 84 2 v n (rowCells l)) : ∃ base c, v = .slice base n c ∧ Holds w base n c l := by
  have hl : n = l.length := by have := h.1; rw [rowCells_length] at this; omega
  rcases h.2 with ⟨rfl, rfl⟩ | ⟨g, cap, cur, rfl, _, _, hnc, hcm, _, _⟩
  · exact ⟨none, 0, rfl, Holds.empty w hl rfl ⟨Nat.le_refl _, Nat.zero_le _, fun _ => rfl⟩⟩
  · exact ⟨some ⟨g, 0, none⟩, cap, rfl, Holds.cells hl (cells_of_rowCells (h.cells rfl)) hnc hcm⟩

/-- The memory of a slice is of elements of the type t. -/
def Kind (w : World) (t : TypeId) (base : Option Addr) : Prop := ∀ a, base = some a → ∃ cur z, w.heap[a.block]? = some (.cells cur t z)
theorem Kind.none (w : World) (t : TypeId) : Kind w t none := fun _ h => by cases h
theorem Kind.below {w w' : World} {t : TypeId} {base : Option Addr} (h : Kind w t base) (hb : Below w.heap.size w w') : Kind w' t base := fun a e => by
  obtain ⟨cur, z, hc⟩ := h a e
  exact ⟨cur, z, by rw [hb.block a.block (Array.getElem?_eq_some_iff.1 hc).1]; exact hc⟩
theorem Kind.set {w : World} {t : TypeId} {base : Option Addr} (h : Kind w t base) (p : Addr) (u : Value) : Kind (w.setCell p u) t base := fun a e => by
  obtain ⟨cur, z, hc⟩ := h a e
  by_cases hp : a.block = p.block
  · simp only [World.setCell, Array.getElem?_modify]
    rw [if_pos hp.symm, hc]
    simp only [Option.map_some]
    split
    · exact ⟨_, _, rfl⟩
    · exact ⟨_, _, rfl⟩
  · exact ⟨cur, z, by rw [Below.heap_setCell _ _ _ _ hp]; exact hc⟩
theorem Kind.owned {w : World} {B t s n : Nat} {base : Option Addr} {c : Nat} {xs : List Value} (h : w.ownsRow B t s (.slice base n c) n xs) : Kind w t base := fun a e => by
  rcases h.2 with ⟨h', _⟩ | ⟨g, cap, cur, h', _, hg, _⟩
  · simp at h'; rw [h'.1] at e; cases e
  · simp at h'; rw [h'.1] at e; cases e; exact ⟨cur, _, hg⟩

/-- An append of rows that lie anywhere onto a row that the call owns. -/
theorem wpList_app (w : World) {ops : Array Oper} {rest : List Oper} {o : Oper} {a : Act} {Q : Exit → Act → World → Prop} (hgd : o.guard = none) (s x : Operand)
    (ho : o.op = .call { callee := .builtin .append, args := #[s, x], argTypes := #[47, 47] })
    (B : Nat) (v : Value) (n : Nat) (l : List Row) (hs : a.eval s = v) (hown : w.ownsRow B 84 2 v n (rowCells l)) (base : Option Addr) (m c : Nat) (l2 : List Row) (hx : a.eval x = .slice base m c) (hh : Holds w base m c l2)
    (hbytes : (n + m) * 24 ≤ 140737488355328) (hB : B ≤ w.heap.size)
    (h : ∀ v' w', w'.ownsRow B 84 2 v' (n + m) (rowCells (l ++ l2)) → w.grownBy w' v.ownBlock → wpList Tryz.prog ops Q rest (a.put o.dst v') w') : wpList Tryz.prog ops Q (o :: rest) a w := by
  obtain ⟨i0, hi, hz0, hz1, hz2⟩ := info_parts pairInfo
  have hlen : (rowCells l2).length = m * 2 := by rw [rowCells_length, hh.len]
  have h63 : n + m ≤ maxLen := by unfold maxLen; omega
  have key : ∀ ad, base = some ad → (∀ j u, (rowCells l2)[j]? = some u → w.cell? (ad.add j) = some u) → wpList Tryz.prog ops Q (o :: rest) a w := fun ad had hnews =>
    wpList_append_own w hgd s x 47 ho B 84 i0 _ 2 24 Tryz.underlying47 hi hz0 hz1 hz2 rfl (by decide) v n (rowCells l) hs hown ad m c (rowCells l2) (by rw [hx, had]) hlen hnews (rowCells_one l2) h63 hbytes hB
      (fun v' w' h1 h2 _ => h v' w' (by rw [rowCells_append]; exact h1) h2)
  cases base with
  | some ad =>
    rcases hh.seg with he | ⟨b, o', he, hc⟩
    · exact key ad rfl (fun j u hu => by rw [he] at hu; simp [rowCells] at hu)
    · cases he
      exact key _ rfl (rowCells_of_cells hc)
  | none =>
    obtain rfl := hh.hdr.nil rfl
    obtain rfl : m = 0 := by have := hh.hdr.le; omega
    have hl2 : l2 = [] := List.eq_nil_of_length_eq_zero (by have := hh.len; omega)
    refine wpList_plain hgd fun K hK' => ?_
    have hrun := run_append_owned_none (P := Tryz.prog) w B 47 o.type 84 i0 2 Tryz.underlying47 hi v n (rowCells l) hown
    unfold Oper.wp
    simp [execOp, ho, resolve, invoke, builtin, hs, hx, hrun, Result.andThen]
    exact hK' _ _ (h v w (by rw [hl2]; simpa using hown) (World.grownBy.refl _ _))

end Go.Proofs.YtagangiilcicpaeGreat

namespace Go.Proofs.YtagangiilcicpaeGreat
open Go.RowKit

/-- From block b, place o on lie these values. -/
def Run (w : World) (b o : Nat) (vs : List Value) : Prop := ∀ j u, vs[j]? = some u → w.cell? ⟨b, o + j, none⟩ = some u

/-- A slice of n elements, of sz cells each, holds these values. -/
structure Lies (w : World) (sz : Nat) (base : Option Addr) (n c : Nat) (vs : List Value) : Prop where
  len : vs.length = n * sz
  hdr : Hdr base n c
  run : n = 0 ∨ ∃ b o, base = some ⟨b, o, none⟩ ∧ Run w b o vs

theorem Run.lt {w : World} {b o : Nat} {vs : List Value} (h : Run w b o vs) (hl : 0 < vs.length) : b < w.heap.size := by
  have := h 0 vs[0] (by simp [hl])
  simpa using World.block_lt_of_cell? _ _ this
theorem Run.below {w w' : World} {b o B : Nat} {vs : List Value} (h : Run w b o vs) (hb : Below B w w') (hB : b < B) : Run w' b o vs := fun j u hu => by
  rw [hb.cell (p := ⟨b, o + j, none⟩) hB]; exact h j u hu
theorem Lies.below {w w' : World} {sz : Nat} (hsz : 0 < sz) {base : Option Addr} {n c : Nat} {vs : List Value} (h : Lies w sz base n c vs) (hb : Below w.heap.size w w') : Lies w' sz base n c vs := by
  refine ⟨h.len, h.hdr, ?_⟩
  rcases h.run with h0 | ⟨b, o, e, hr⟩
  · exact .inl h0
  · by_cases h0 : n = 0
    · exact .inl h0
    · refine .inr ⟨b, o, e, hr.below hb (hr.lt ?_)⟩
      rw [h.len]
      exact Nat.mul_pos (by omega) hsz
theorem Lies.none (w : World) (sz : Nat) : Lies w sz none 0 0 [] := ⟨by simp, ⟨Nat.le_refl _, Nat.zero_le _, fun _ => rfl⟩, .inl rfl⟩

/-- What a row that the call owns holds. -/
theorem Lies.owned {w : World} {B e sz n : Nat} {v : Value} {vs : List Value} (h : w.ownsRow B e sz v n vs) : ∃ base c, v = .slice base n c ∧ Lies w sz base n c vs := by
  have hl := h.1
  rcases h.2 with ⟨rfl, rfl⟩ | ⟨g, cap, cur, rfl, _, _, hnc, hcm, _, _⟩
  · exact ⟨_, 0, rfl, ⟨hl, ⟨Nat.le_refl _, Nat.zero_le _, fun _ => rfl⟩, .inl rfl⟩⟩
  · refine ⟨some ⟨g, 0, Option.none⟩, cap, rfl, ⟨hl, ⟨hnc, hcm, fun h => by cases h⟩, .inr ⟨g, 0, rfl, fun j u hu => ?_⟩⟩⟩
    have := h.cells rfl j u hu
    rwa [Addr.add_lit] at this

/-- An append of what lies anywhere onto a row that the call owns: e is the elements' type, t the slices'. -/
theorem wpList_onto (w : World) {ops : Array Oper} {rest : List Oper} {o : Oper} {a : Act} {Q : Exit → Act → World → Prop} (hgd : o.guard = Option.none) (s x : Operand) (t e sz bytes : Nat) (z : Value)
    (hu : Tryz.prog.underlying t = some (.slice e)) (hinfo : (Tryz.prog.info? e).map (fun i => (i.zero, i.size, i.bytes)) = some (some z, sz, bytes)) (hzc : z.cells.size = sz) (hsz : 0 < sz) (hby : 0 < bytes)
    (ho : o.op = .call { callee := .builtin .append, args := #[s, x], argTypes := #[t, t] })
    (B : Nat) (v : Value) (n : Nat) (l : List Value) (hs : a.eval s = v) (hown : w.ownsRow B e sz v n l) (base : Option Addr) (m c : Nat) (l2 : List Value) (hx : a.eval x = .slice base m c) (hh : Lies w sz base m c l2) (hone : ∀ u ∈ l2, u.oneCell' = true)
    (hbytes : (n + m) * bytes ≤ 140737488355328) (hB : B ≤ w.heap.size)
    (h : ∀ v' w', w'.ownsRow B e sz v' (n + m) (l ++ l2) → w.grownBy w' v.ownBlock → wpList Tryz.prog ops Q rest (a.put o.dst v') w') : wpList Tryz.prog ops Q (o :: rest) a w := by
  obtain ⟨i0, hi, hz0, hz1, hz2⟩ := info_parts hinfo
  have hlen := hh.len
  have h63 : n + m ≤ maxLen := by
    have := Nat.le_mul_of_pos_right (n + m) hby
    unfold maxLen; omega
  have key : ∀ ad, base = some ad → (∀ j u, l2[j]? = some u → w.cell? (ad.add j) = some u) → wpList Tryz.prog ops Q (o :: rest) a w := fun ad had hnews =>
    wpList_append_own w hgd s x t ho B e i0 _ sz bytes hu hi hz0 hz1 hz2 hzc hsz v n l hs hown ad m c l2 (by rw [hx, had]) hlen hnews hone h63 hbytes hB
      (fun v' w' h1 h2 _ => h v' w' h1 h2)
  cases base with
  | some ad =>
    rcases hh.run with he | ⟨b, o', he, hc⟩
    · subst he
      have : l2 = [] := List.eq_nil_of_length_eq_zero (by omega)
      exact key ad rfl (fun j u hu => by rw [this] at hu; simp at hu)
    · cases he
      exact key _ rfl (fun j u hu => by rw [Addr.add_lit]; exact hc j u hu)
  | none =>
    obtain rfl := hh.hdr.nil rfl
    obtain rfl : m = 0 := by have := hh.hdr.le; omega
    have hl2 : l2 = [] := List.eq_nil_of_length_eq_zero (by omega)
    refine wpList_plain hgd fun K hK' => ?_
    have hrun := run_append_owned_none (P := Tryz.prog) w B t o.type e i0 sz hu hi v n l hown
    unfold Oper.wp
    simp [execOp, ho, resolve, invoke, builtin, hs, hx, hrun, Result.andThen]
    exact hK' _ _ (h v w (by rw [hl2]; simpa using hown) (World.grownBy.refl _ _))

/-- Texts as cells. -/
def strs (l : List ByteArray) : List Value := l.map Value.string
theorem strs_length (l : List ByteArray) : (strs l).length = l.length := by simp [strs]
theorem strs_at {l : List ByteArray} {i : Nat} (h : i < l.length) : (strs l)[i]? = some (.string (l.getD i default)) := by simp [strs, List.getD, h]
theorem strs_one (l : List ByteArray) : ∀ u ∈ strs l, u.oneCell' = true := fun u hu => by
  simp [strs] at hu; obtain ⟨x, _, rfl⟩ := hu; rfl
theorem strs_append (l m : List ByteArray) : strs (l ++ m) = strs l ++ strs m := by simp [strs]
abbrev Texts (w : World) (base : Option Addr) (n c : Nat) (l : List ByteArray) : Prop := Lies w 1 base n c (strs l)
theorem Texts.count {w : World} {base : Option Addr} {n c : Nat} {l : List ByteArray} (h : Texts w base n c l) : n = l.length := by have := h.len; rw [strs_length] at this; omega
theorem Texts.take {w : World} {base : Option Addr} {n c : Nat} {l : List ByteArray} (h : Texts w base n c l) {k : Nat} (hk : k ≤ n) : Texts w base k c (l.take k) := by
  have hn := Texts.count h
  refine ⟨by rw [strs_length]; simp; omega, ⟨Nat.le_trans hk h.hdr.le, h.hdr.max, h.hdr.nil⟩, ?_⟩
  rcases h.run with h0 | ⟨b, o, e, hr⟩
  · exact .inl (by omega)
  · refine .inr ⟨b, o, e, fun j u hu => hr j u ?_⟩
    simp [strs, List.getElem?_take] at hu ⊢
    exact hu.2
theorem strInfo : (Tryz.prog.info? 9).map (fun i => (i.zero, i.size, i.bytes)) = some (some (.string ByteArray.empty), 1, 16) := by kernel_rfl
end Go.Proofs.YtagangiilcicpaeGreat
