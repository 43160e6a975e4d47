/-
  Plain mathematics of rows, with no program in sight: the order of keys, what a key has in a list of rows, putting and dropping a key, and when rows are right.
  Plain mathematics of deeds, with no program in sight: what is wrong with a deed, and how a right one ends.
-/
import Derived.WalkKit
namespace Go.Proofs.YtagangiilcicpaeGreatDoor

/-- A row: a key and its number. -/
abbrev Row := ByteArray × Int

/-- Go's order of strings. -/
def less (a b : ByteArray) : Bool := Op.bytesLess a.toList b.toList

theorem bytesLess_lt : ∀ (x y : List UInt8), Op.bytesLess x y = decide (x < y)
  | [], [] => by simp [Op.bytesLess]
  | _ :: _, [] => by simp [Op.bytesLess]
  | [], _ :: _ => by simp [Op.bytesLess]
  | a :: x, b :: y => by
    rw [Op.bytesLess, bytesLess_lt x y]
    simp only [List.cons_lt_cons_iff]
    by_cases h1 : a < b <;> by_cases h2 : a = b <;> by_cases h3 : x < y <;> simp [h1, h2, h3]

theorem toList_inj {a b : ByteArray} (h : a.toList = b.toList) : a = b := by
  rw [ByteArray.toList_eq, ByteArray.toList_eq] at h
  cases a; cases b
  simpa using h

theorem less_def (a b : ByteArray) : less a b = decide (a.toList < b.toList) := bytesLess_lt _ _

theorem less_irrefl (a : ByteArray) : less a a = false := by
  rw [less_def]; simp [List.lt_irrefl]

theorem less_trans {a b c : ByteArray} (h : less a b = true) (k : less b c = true) : less a c = true := by
  rw [less_def] at *
  simp only [decide_eq_true_eq] at *
  exact List.lt_trans h k

theorem less_asymm {a b : ByteArray} (h : less a b = true) : less b a = false := by
  cases k : less b a with
  | false => rfl
  | true => have := less_trans h k; rw [less_irrefl] at this; cases this

theorem less_tri {a b : ByteArray} (h : less a b = false) (k : less b a = false) : a = b := by
  rw [less_def] at *
  simp only [decide_eq_false_iff_not] at *
  exact toList_inj (List.le_antisymm (by simpa using k) (by simpa using h))

theorem less_ne {a b : ByteArray} (h : less a b = true) : a ≠ b := by
  rintro rfl; rw [less_irrefl] at h; cases h

/-- One key, or less, or more. -/
theorem less_cases (a b : ByteArray) : less a b = true ∨ a = b ∨ less b a = true := by
  cases h : less a b with
  | true => exact .inl rfl
  | false => cases k : less b a with
    | true => exact .inr (.inr rfl)
    | false => exact .inr (.inl (less_tri h k))

/-! ### Putting and dropping -/
/-- The rows with key k, which has n. -/
def ins (k : ByteArray) (n : Int) : List Row → List Row
  | [] => [(k, n)]
  | x :: l => if less x.1 k then x :: ins k n l else if less k x.1 then (k, n) :: x :: l else (k, n) :: l
/-- The rows without key k. -/
def del (k : ByteArray) : List Row → List Row
  | [] => []
  | x :: l => if less x.1 k then x :: del k l else if less k x.1 then x :: l else l
/-- Where k stands, or would stand. -/
def pos (k : ByteArray) : List Row → Nat
  | [] => 0
  | x :: l => if less x.1 k then pos k l + 1 else 0
/-- Is k there, at its place? -/
def isAt (k : ByteArray) : List Row → Bool
  | [] => false
  | x :: l => if less x.1 k then isAt k l else !less k x.1
/-- What k has; 0 where it has nothing. -/
def num (k : ByteArray) : List Row → Int
  | [] => 0
  | x :: l => if less x.1 k then num k l else if less k x.1 then 0 else x.2
/-- Rows that rise. -/
def Srt (l : List Row) : Prop := l.Pairwise (fun x y => less x.1 y.1 = true)

/-! ### Two keys, either way -/
theorem srt_cons {x : Row} {l : List Row} : Srt (x :: l) ↔ (∀ y ∈ l, less x.1 y.1 = true) ∧ Srt l := List.pairwise_cons

/-! ### Order is kept -/
theorem mem_ins {k : ByteArray} {n : Int} {y : Row} : ∀ {l}, y ∈ ins k n l → y = (k, n) ∨ y ∈ l
  | [], h => by simp [ins] at h; exact .inl h
  | x :: l, h => by
    rw [ins] at h
    split at h
    · rcases List.mem_cons.1 h with rfl | h
      · exact .inr (by simp)
      · rcases mem_ins h with h | h
        · exact .inl h
        · exact .inr (by simp [h])
    · split at h
      · rcases List.mem_cons.1 h with h | h
        · exact .inl h
        · exact .inr h
      · rcases List.mem_cons.1 h with h | h
        · exact .inl h
        · exact .inr (by simp [h])
theorem mem_del {k : ByteArray} {y : Row} : ∀ {l}, y ∈ del k l → y ∈ l
  | [], h => by simp [del] at h
  | x :: l, h => by
    rw [del] at h
    split at h
    · rcases List.mem_cons.1 h with rfl | h
      · simp
      · simp [mem_del h]
    · split at h
      · exact h
      · simp [h]

theorem srt_ins {k : ByteArray} {n : Int} : ∀ {l}, Srt l → Srt (ins k n l)
  | [], _ => by simp [ins, Srt]
  | x :: l, hs => by
    obtain ⟨hx, hl⟩ := srt_cons.1 hs
    rw [ins]
    rcases less_cases x.1 k with h | h | h
    · rw [if_pos h]
      refine srt_cons.2 ⟨fun y hy => ?_, srt_ins hl⟩
      rcases mem_ins hy with rfl | hy
      · exact h
      · exact hx y hy
    · rw [if_neg (by rw [h]; simp [less_irrefl]), if_neg (by rw [h]; simp [less_irrefl])]
      exact srt_cons.2 ⟨fun y hy => by have := hx y hy; rwa [h] at this, hl⟩
    · rw [if_neg (by simp [less_asymm h]), if_pos h]
      refine srt_cons.2 ⟨fun y hy => ?_, hs⟩
      rcases List.mem_cons.1 hy with rfl | hy
      · exact h
      · exact less_trans h (hx y hy)
theorem srt_del {k : ByteArray} : ∀ {l}, Srt l → Srt (del k l)
  | [], h => by simpa [del] using h
  | x :: l, hs => by
    obtain ⟨hx, hl⟩ := srt_cons.1 hs
    rw [del]
    split
    · exact srt_cons.2 ⟨fun y hy => hx y (mem_del hy), srt_del hl⟩
    · split
      · exact hs
      · exact hl

/-! ### What keys have behind it -/
theorem isAt_ins (k : ByteArray) (n : Int) : ∀ l, isAt k (ins k n l) = true
  | [] => by simp [ins, isAt, less_irrefl]
  | x :: l => by
    rw [ins]
    cases h : less x.1 k with
    | true => simp [isAt, h, isAt_ins k n l]
    | false => cases h2 : less k x.1 <;> simp [isAt, less_irrefl]
theorem num_ins (k : ByteArray) (n : Int) : ∀ l, num k (ins k n l) = n
  | [] => by simp [ins, num, less_irrefl]
  | x :: l => by
    rw [ins]
    cases h : less x.1 k with
    | true => simp [num, h, num_ins k n l]
    | false => cases h2 : less k x.1 <;> simp [num, less_irrefl]
theorem isAt_front {k : ByteArray} {l : List Row} (h : ∀ y ∈ l, less k y.1 = true) : isAt k l = false ∧ num k l = 0 := by
  cases l with
  | nil => exact ⟨rfl, rfl⟩
  | cons y l =>
    have hy := h y (by simp)
    simp [isAt, num, hy, less_asymm hy]
theorem isAt_del (k : ByteArray) : ∀ l, Srt l → isAt k (del k l) = false
  | [], _ => rfl
  | x :: l, hs => by
    obtain ⟨hx, hl⟩ := srt_cons.1 hs
    rw [del]
    rcases less_cases x.1 k with h | h | h
    · simp [isAt, h, isAt_del k l hl]
    · rw [h]
      simp only [less_irrefl]
      exact (isAt_front fun y hy => by have := hx y hy; rwa [h] at this).1
    · simp [isAt, h, less_asymm h]

theorem other_ins {k o : ByteArray} (n : Int) (hko : o ≠ k) : ∀ l, Srt l → isAt o (ins k n l) = isAt o l ∧ num o (ins k n l) = num o l
  | [], _ => by
    rcases less_cases k o with h | h | h
    · simp [ins, isAt, num, h]
    · exact absurd h.symm hko
    · simp [ins, isAt, num, h, less_asymm h]
  | x :: l, hs => by
    obtain ⟨hx, hl⟩ := srt_cons.1 hs
    have ih := other_ins n hko l hl
    rcases less_cases x.1 k with h | h | h
    · simp only [ins, h, if_true, isAt, num]
      rw [ih.1, ih.2]; exact ⟨rfl, rfl⟩
    · rcases less_cases k o with g | g | g
      · simp [ins, isAt, num, h, less_irrefl, g]
      · exact absurd g.symm hko
      · simp [ins, isAt, num, h, less_irrefl, g, less_asymm g]
    · rcases less_cases k o with g | g | g
      · simp [ins, isAt, num, h, less_asymm h, g]
      · exact absurd g.symm hko
      · have := less_trans g h
        simp [ins, isAt, num, h, less_asymm h, g, less_asymm g, this, less_asymm this]

theorem other_del {k o : ByteArray} (hko : o ≠ k) : ∀ l, Srt l → isAt o (del k l) = isAt o l ∧ num o (del k l) = num o l
  | [], _ => ⟨rfl, rfl⟩
  | x :: l, hs => by
    obtain ⟨hx, hl⟩ := srt_cons.1 hs
    have ih := other_del hko l hl
    rcases less_cases x.1 k with h | h | h
    · simp only [del, h, if_true, isAt, num]
      rw [ih.1, ih.2]; exact ⟨rfl, rfl⟩
    · rcases less_cases k o with g | g | g
      · simp [del, isAt, num, h, less_irrefl, g]
      · exact absurd g.symm hko
      · have hf := isAt_front (k := o) (l := l) fun y hy => by have := hx y hy; rw [h] at this; exact less_trans g this
        simp [del, isAt, num, h, less_irrefl, g, less_asymm g, hf]
    · simp [del, h, less_asymm h]

/-! ### Keys -/
/-- A letter from a to z. -/
def okc (c : UInt8) : Bool := decide (97 ≤ (c.toNat : Int)) && decide ((c.toNat : Int) ≤ 122)
/-- A key: one to six such letters. -/
def keyB (s : ByteArray) : Bool := decide (1 ≤ s.size) && decide (s.size ≤ 6) && s.data.toList.all okc

/-! ### Right rows -/
/-- What is wrong with row i: 0 is nothing. -/
def wrongAt (l : List Row) (i : Nat) : Int :=
  if keyB (l.getD i default).1 = false then 7
  else if 0 < i ∧ less (l.getD (i - 1) default).1 (l.getD i default).1 = false then 2
  else if (l.getD i default).2 < -1073741824 ∨ 1073741824 < (l.getD i default).2 then 3 else 0
/-- What is wrong with the first k rows. -/
def wrongTo (l : List Row) : Nat → Int
  | 0 => 0
  | k + 1 => if wrongTo l k = 0 then wrongAt l k else wrongTo l k
/-- What is wrong with rows. -/
def wrong (l : List Row) : Int := wrongTo l l.length

/-- Right: keys, in order, within range. -/
structure Right (l : List Row) : Prop where
  srt : Srt l
  key : ∀ x ∈ l, keyB x.1 = true
  lo : ∀ x ∈ l, -1073741824 ≤ x.2
  hi : ∀ x ∈ l, x.2 ≤ 1073741824

theorem mem_getD {l : List Row} {i : Nat} (h : i < l.length) : l.getD i default ∈ l := by
  simp [List.getD, h]

theorem right_ins {k : ByteArray} {n : Int} {l : List Row} (h : Right l) (hk : keyB k = true) (h1 : -1073741824 ≤ n) (h2 : n ≤ 1073741824) : Right (ins k n l) := by
  refine ⟨srt_ins h.srt, fun x hx => ?_, fun x hx => ?_, fun x hx => ?_⟩
  · rcases mem_ins hx with rfl | hx
    · exact hk
    · exact h.key x hx
  · rcases mem_ins hx with rfl | hx
    · exact h1
    · exact h.lo x hx
  · rcases mem_ins hx with rfl | hx
    · exact h2
    · exact h.hi x hx
theorem right_del {k : ByteArray} {l : List Row} (h : Right l) : Right (del k l) :=
  ⟨srt_del h.srt, fun x hx => h.key x (mem_del hx), fun x hx => h.lo x (mem_del hx), fun x hx => h.hi x (mem_del hx)⟩

/-! ### The place that a search finds -/
theorem num_not (k : ByteArray) : ∀ l : List Row, isAt k l = false → num k l = 0
  | [], _ => rfl
  | x :: l, h => by
    rw [isAt] at h
    rw [num]
    cases h1 : less x.1 k with
    | true => simp [h1] at h; simp [num_not k l h]
    | false =>
      simp [h1] at h
      simp [h]
end Go.Proofs.YtagangiilcicpaeGreatDoor

namespace Go.Proofs.YtagangiilcicpaeGreatDoor
open Go.RowKit

/-- An instruction: kind, A, B, N, key. -/
abbrev Ins := Int × Int × Int × Int × ByteArray
abbrev Ins.kind (i : Ins) : Int := i.1
abbrev Ins.a (i : Ins) : Int := i.2.1
abbrev Ins.b (i : Ins) : Int := i.2.2.1
abbrev Ins.n (i : Ins) : Int := i.2.2.2.1
abbrev Ins.key (i : Ins) : ByteArray := i.2.2.2.2

/-- Is k among them? -/
def has (l : List ByteArray) (k : ByteArray) : Bool := l.any (fun x => decide (x = k))
theorem has_snoc (l : List ByteArray) (x k : ByteArray) : has (l ++ [x]) k = (has l k || decide (x = k)) := by simp [has]
theorem has_iff {l : List ByteArray} {k : ByteArray} : has l k = true ↔ k ∈ l := by simp [has]
theorem take_snoc_getD {α : Type} [Inhabited α] {l : List α} {i : Nat} (h : i < l.length) : l.take (i + 1) = l.take i ++ [l.getD i default] := by
  rw [List.take_succ_eq_append_getElem h]; simp [List.getD, h]
theorem has_take_true {l : List ByteArray} {k : ByteArray} {i : Nat} (h : has (l.take i) k = true) : has l k = true := by
  rw [has_iff] at *; exact List.mem_of_mem_take h

/-! ### What is wrong with keys -/
def badAt (l : List ByteArray) (i : Nat) : Bool := !keyB (l.getD i default) || has (l.take i) (l.getD i default)
def badTo (l : List ByteArray) : Nat → Bool
  | 0 => false
  | k + 1 => badTo l k || badAt l k
def wKeys (l : List ByteArray) : Int := if 5 < l.length then 5 else if badTo l l.length = true then 7 else 0
theorem badTo_mono {l : List ByteArray} {k : Nat} (h : badTo l k = true) : ∀ d, badTo l (k + d) = true
  | 0 => h
  | d + 1 => by
    show (badTo l (k + d) || badAt l (k + d)) = true
    rw [badTo_mono h d]; rfl
theorem badTo_all {l : List ByteArray} {k : Nat} (hk : k < l.length) (h : badAt l k = true) : badTo l l.length = true := by
  have : badTo l (k + 1) = true := by simp [badTo, h]
  have := badTo_mono this (l.length - (k + 1))
  rwa [show k + 1 + (l.length - (k + 1)) = l.length from by omega] at this
theorem badTo_false {l : List ByteArray} {k : Nat} (h : badTo l k = false) : ∀ i, i < k → badAt l i = false := by
  induction k with
  | zero => intro i hi; omega
  | succ k ih =>
    simp only [badTo, Bool.or_eq_false_iff] at h
    intro i hi
    by_cases e : i = k
    · rw [e]; exact h.2
    · exact ih h.1 i (by omega)
theorem wKeys_len {l : List ByteArray} (h : wKeys l = 0) : l.length ≤ 5 := by
  unfold wKeys at h
  split at h
  · cases h
  · omega
theorem wKeys_bad {l : List ByteArray} (h : wKeys l = 0) : badTo l l.length = false := by
  unfold wKeys at h
  split at h
  · cases h
  · split at h
    · cases h
    · rename_i h2; simpa using h2
theorem wKeys_key {l : List ByteArray} (h : wKeys l = 0) {k : ByteArray} (hk : k ∈ l) : keyB k = true := by
  obtain ⟨i, hi, rfl⟩ := List.getElem_of_mem hk
  have := badTo_false (wKeys_bad h) i hi
  simp only [badAt, Bool.or_eq_false_iff] at this
  simpa [List.getD, hi] using this.1
theorem wKeys_nodup {l : List ByteArray} (h : wKeys l = 0) : l.Nodup := by
  rw [List.nodup_iff_pairwise_ne, List.pairwise_iff_getElem]
  intro i j hi hj hij e
  have := badTo_false (wKeys_bad h) j hj
  simp only [badAt, Bool.or_eq_false_iff] at this
  have h2 := this.2
  have : has (l.take j) (l.getD j default) = true := by
    rw [has_iff, List.mem_take_iff_getElem]
    exact ⟨i, by omega, by simp [List.getD, hj, e]⟩
  rw [this] at h2; cases h2

/-! ### What is wrong with instructions -/
def regFit (n : Int) (h : Bool) : Bool := if h then decide (0 ≤ n) && decide (n < 4) else decide (n = 0)
def hasB (kind : Int) : Bool := decide (kind = 3) || decide (kind = 4) || decide (kind = 5)
def regsFit (i : Ins) : Bool := regFit i.a (!decide (i.kind = 7)) && regFit i.b (hasB i.kind)
def numFit (i : Ins) (behind : Int) : Bool := if i.kind = 2 then decide (-1073741824 ≤ i.n) && decide (i.n ≤ 1073741824) else if i.kind = 8 then decide (1 ≤ i.n) && decide (i.n ≤ behind) else decide (i.n = 0)
def noKey (l : List ByteArray) (k : ByteArray) : Int := if has l k = true then 0 else 9
def wIns (R W : List ByteArray) (i : Ins) (behind : Int) : Int :=
  if i.kind < 1 ∨ 9 < i.kind then 1
  else if regsFit i = false ∨ numFit i behind = false then 3
  else if i.kind = 1 then noKey R i.key
  else if i.kind = 6 ∨ i.kind = 7 then noKey W i.key
  else if i.key.size = 0 then 0 else 2
def wCode (R W : List ByteArray) (C : List Ins) : Nat → Int
  | 0 => 0
  | k + 1 => if wCode R W C k = 0 then wIns R W (C.getD k default) ((C.length : Int) - 1 - k) else wCode R W C k
def wDeed (R W : List ByteArray) (C : List Ins) : Int :=
  if wKeys R ≠ 0 then wKeys R else if wKeys W ≠ 0 then wKeys W else if 12 < C.length then 5 else wCode R W C C.length

theorem wCode_stays {R W : List ByteArray} {C : List Ins} {k : Nat} (h : wCode R W C k ≠ 0) : ∀ d, wCode R W C (k + d) = wCode R W C k
  | 0 => rfl
  | d + 1 => by
    have := wCode_stays h d
    show wCode R W C (k + d + 1) = _
    rw [wCode, this, if_neg h]
theorem wCode_at {R W : List ByteArray} {C : List Ins} {k : Nat} (hk : k < C.length) (h0 : wCode R W C k = 0) (h : wIns R W (C.getD k default) ((C.length : Int) - 1 - k) ≠ 0) : wCode R W C C.length = wIns R W (C.getD k default) ((C.length : Int) - 1 - k) := by
  have e : wCode R W C (k + 1) = wIns R W (C.getD k default) ((C.length : Int) - 1 - k) := by rw [wCode, if_pos h0]
  have := wCode_stays (R := R) (W := W) (C := C) (k := k + 1) (by rw [e]; exact h) (C.length - (k + 1))
  rw [show k + 1 + (C.length - (k + 1)) = C.length from by omega, e] at this
  exact this
theorem wCode_step {R W : List ByteArray} {C : List Ins} {k : Nat} (h0 : wCode R W C k = 0) (h : wIns R W (C.getD k default) ((C.length : Int) - 1 - k) = 0) : wCode R W C (k + 1) = 0 := by
  rw [wCode, if_pos h0, h]
theorem wCode_all {R W : List ByteArray} {C : List Ins} {k : Nat} (h : wCode R W C k = 0) : ∀ i, i < k → wIns R W (C.getD i default) ((C.length : Int) - 1 - i) = 0 := by
  induction k with
  | zero => intro i hi; omega
  | succ k ih =>
    rw [wCode] at h
    by_cases h0 : wCode R W C k = 0
    · rw [if_pos h0] at h
      intro i hi
      by_cases e : i = k
      · rw [e]; exact h
      · exact ih h0 i (by omega)
    · rw [if_neg h0] at h; exact absurd h h0

/-- A right deed. -/
structure RightD (R W : List ByteArray) (C : List Ins) : Prop where
  r : wKeys R = 0
  w : wKeys W = 0
  c : C.length ≤ 12
  i : ∀ k, k < C.length → wIns R W (C.getD k default) ((C.length : Int) - 1 - k) = 0
theorem right_deed {R W : List ByteArray} {C : List Ins} (h : wDeed R W C = 0) : RightD R W C := by
  unfold wDeed at h
  split at h
  · rename_i h1; exact absurd h h1
  split at h
  · rename_i _ h1; exact absurd h h1
  split at h
  · cases h
  · rename_i h1 h2 h3
    exact ⟨by simpa using h1, by simpa using h2, by omega, wCode_all h⟩

/-- What a right instruction is. -/
structure RightI (R W : List ByteArray) (i : Ins) (behind : Int) : Prop where
  lo : 1 ≤ i.kind
  hi : i.kind ≤ 9
  a0 : 0 ≤ i.a
  a4 : i.a < 4
  b0 : 0 ≤ i.b
  b4 : i.b < 4
  skip : i.kind = 8 → 1 ≤ i.n ∧ i.n ≤ behind
  load : i.kind = 1 → has R i.key = true
  write : i.kind = 6 ∨ i.kind = 7 → has W i.key = true
theorem regFit_bounds {n : Int} {h : Bool} (e : regFit n h = true) : 0 ≤ n ∧ n < 4 := by
  cases h <;> simp [regFit] at e <;> omega
theorem noKey_has {l : List ByteArray} {k : ByteArray} (h : noKey l k = 0) : has l k = true := by
  unfold noKey at h; split at h
  · assumption
  · cases h
theorem right_instr {R W : List ByteArray} {i : Ins} {behind : Int} (h : wIns R W i behind = 0) : RightI R W i behind := by
  unfold wIns at h
  split at h
  · cases h
  split at h
  · cases h
  rename_i h1 h2
  have h3 : regsFit i = true ∧ numFit i behind = true := by
    constructor
    · cases e : regsFit i with
      | true => rfl
      | false => exact absurd (.inl e) h2
    · cases e : numFit i behind with
      | true => rfl
      | false => exact absurd (.inr e) h2
  obtain ⟨hr, hn⟩ := h3
  simp only [regsFit, Bool.and_eq_true] at hr
  have ha := regFit_bounds hr.1
  have hb := regFit_bounds hr.2
  refine ⟨by omega, by omega, ha.1, ha.2, hb.1, hb.2, fun e => ?_, fun e => ?_, fun e => ?_⟩
  · simp [numFit, e] at hn; exact hn
  · rw [if_pos e] at h; exact noKey_has h
  · rw [if_neg (by omega), if_pos e] at h; exact noKey_has h

/-! ### How a deed ends -/
abbrev Made := ByteArray → Option (Option Int)
def setR (r : Nat → Int) (i : Nat) (x : Int) : Nat → Int := fun j => if j = i then x else r j
def setM (m : Made) (k : ByteArray) (x : Option Int) : Made := fun j => if j = k then some x else m j
/-- What a key has for the deed: its own doings hide what it sees. -/
def look (v : ByteArray → Int) (m : Made) (k : ByteArray) : Int := match m k with
  | some (some n) => n
  | some none => 0
  | none => v k
def zeroR : Nat → Int := fun _ => 0
def zeroM : Made := fun _ => none
def rnd (x : Int) : Int := (wrap64 x).tmod 1073741825
/-- The instructions, of which the first k are passed over: the registers, what was made, and whether it failed. -/
def exec (v : ByteArray → Int) : List Ins → Nat → (Nat → Int) → Made → (Nat → Int) × Made × Bool
  | [], _, r, m => (r, m, false)
  | _ :: l, k + 1, r, m => exec v l k r m
  | i :: l, 0, r, m =>
    if i.kind = 1 then exec v l 0 (setR r i.a.toNat (look v m i.key)) m
    else if i.kind = 2 then exec v l 0 (setR r i.a.toNat i.n) m
    else if i.kind = 3 then exec v l 0 (setR r i.a.toNat (rnd (r i.a.toNat + r i.b.toNat))) m
    else if i.kind = 4 then exec v l 0 (setR r i.a.toNat (rnd (r i.a.toNat - r i.b.toNat))) m
    else if i.kind = 5 then exec v l 0 (setR r i.a.toNat (rnd (r i.a.toNat * r i.b.toNat))) m
    else if i.kind = 6 then exec v l 0 r (setM m i.key (some (r i.a.toNat)))
    else if i.kind = 7 then exec v l 0 r (setM m i.key none)
    else if i.kind = 8 then exec v l (if r i.a.toNat ≤ 0 then i.n.toNat else 0) r m
    else if r i.a.toNat < 0 then (r, m, true) else exec v l 0 r m
theorem exec_drop (v : ByteArray → Int) : ∀ (l : List Ins) (k : Nat) (r : Nat → Int) (m : Made), exec v l k r m = exec v (l.drop k) 0 r m
  | [], k, r, m => by simp [exec]
  | i :: l, 0, r, m => by simp
  | i :: l, k + 1, r, m => by
    rw [exec, List.drop_succ_cons]; exact exec_drop v l k r m
theorem drop_at {C : List Ins} {k : Nat} (h : k < C.length) : C.drop k = C.getD k default :: C.drop (k + 1) := by
  rw [List.drop_eq_getElem_cons h]; simp [List.getD, h]
/-- What the deed made, in the order of the keys it names. -/
def vers (m : Made) (W : List ByteArray) : List (ByteArray × Option Int) := W.filterMap (fun k => (m k).map (fun o => (k, o)))
theorem vers_snoc (m : Made) (W : List ByteArray) (k : ByteArray) : vers m (W ++ [k]) = vers m W ++ (match m k with | some o => [(k, o)] | none => []) := by
  unfold vers; rw [List.filterMap_append]
  cases h : m k <;> simp [h]
end Go.Proofs.YtagangiilcicpaeGreatDoor
