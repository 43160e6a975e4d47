/-
  Plain mathematics of rows, with no program in sight: the order of keys, what a key has in a list of rows, putting and dropping a key, and when rows are right.
  Plain mathematics of deeds, with no program in sight: what is wrong with a deed, and how a right one ends.
  Plain mathematics of numbers as texts: a number's own text is read as that number.
  Plain mathematics of deeds as texts: a text cut at blanks, or at semicolons with a blank, and put together again; a right deed's text, read, is that deed; a text that is read is its deed's.
-/
import Derived.WalkKit
import Derived.Lib.AtoiAllCases
import Derived.Lib.ItoaMem
namespace Go.Proofs.YtlhaeeenkgkdaaaGreatDoor

abbrev Row := ByteArray × Int

def less (a b : ByteArray) : Bool := Op.bytesLess a.toList b.toList

theorem bytesLess_lt : ∀ (x y : List UInt8), Op.bytesLess x y = decide (x < y)
 | [], [] => by simp [Op.bytesLess]
 | _ :: _, [] => by simp [Op.bytesLess]
 | [], _ :: _ => by simp [Op.bytesLess]
 | a :: x, b :: y => by
   rw [Op.bytesLess, bytesLess_lt x y]
   simp only [List.cons_lt_cons_iff]
   by_cases h1 : a < b <;> by_cases h2 : a = b <;> by_cases h3 : x < y <;> simp [h1, h2, h3]

theorem toList_inj {a b : ByteArray} (h : a.toList = b.toList) : a = b := by
 rw [ByteArray.toList_eq, ByteArray.toList_eq] at h
 cases a; cases b
 simpa using h

theorem less_def (a b : ByteArray) : less a b = decide (a.toList < b.toList) := bytesLess_lt _ _

theorem less_irrefl (a : ByteArray) : less a a = false := by
 rw [less_def]; simp [List.lt_irrefl]

theorem less_trans {a b c : ByteArray} (h : less a b = true) (k : less b c = true) : less a c = true := by
 rw [less_def] at *
 simp only [decide_eq_true_eq] at *
 exact List.lt_trans h k

theorem less_asymm {a b : ByteArray} (h : less a b = true) : less b a = false := by
 cases k : less b a with
 | false => rfl
 | true => have := less_trans h k; rw [less_irrefl] at this; cases this

theorem less_tri {a b : ByteArray} (h : less a b = false) (k : less b a = false) : a = b := by
 rw [less_def] at *
 simp only [decide_eq_false_iff_not] at *
 exact toList_inj (List.le_antisymm (by simpa using k) (by simpa using h))

theorem less_ne {a b : ByteArray} (h : less a b = true) : a ≠ b := by
 rintro rfl; rw [less_irrefl] at h; cases h

theorem less_cases (a b : ByteArray) : less a b = true ∨ a = b ∨ less b a = true := by
 cases h : less a b with
 | true => exact .inl rfl
 | false => cases k : less b a with
   | true => exact .inr (.inr rfl)
   | false => exact .inr (.inl (less_tri h k))

def ins (k : ByteArray) (n : Int) : List Row → List Row
 | [] => [(k, n)]
 | x :: l => if less x.1 k then x :: ins k n l else if less k x.1 then (k, n) :: x :: l else (k, n) :: l
def del (k : ByteArray) : List Row → List Row
 | [] => []
 | x :: l => if less x.1 k then x :: del k l else if less k x.1 then x :: l else l
def pos (k : ByteArray) : List Row → Nat
 | [] => 0
 | x :: l => if less x.1 k then pos k l + 1 else 0
def isAt (k : ByteArray) : List Row → Bool
 | [] => false
 | x :: l => if less x.1 k then isAt k l else !less k x.1
def num (k : ByteArray) : List Row → Int
 | [] => 0
 | x :: l => if less x.1 k then num k l else if less k x.1 then 0 else x.2
def Srt (l : List Row) : Prop := l.Pairwise (fun x y => less x.1 y.1 = true)

theorem ins_length (k : ByteArray) (n : Int) : ∀ l, (ins k n l).length ≤ l.length + 1
 | [] => by simp [ins]
 | x :: l => by
   have := ins_length k n l
   rw [ins]; split
   · simp; omega
   · split <;> simp
theorem del_length (k : ByteArray) : ∀ l, (del k l).length ≤ l.length
 | [] => by simp [del]
 | x :: l => by
   have := del_length k l
   rw [del]; split
   · simp; omega
   · split <;> simp

theorem srt_cons {x : Row} {l : List Row} : Srt (x :: l) ↔ (∀ y ∈ l, less x.1 y.1 = true) ∧ Srt l := List.pairwise_cons

theorem mem_ins {k : ByteArray} {n : Int} {y : Row} : ∀ {l}, y ∈ ins k n l → y = (k, n) ∨ y ∈ l
 | [], h => by simp [ins] at h; exact .inl h
 | x :: l, h => by
   rw [ins] at h
   split at h
   · rcases List.mem_cons.1 h with rfl | h
     · exact .inr (by simp)
     · rcases mem_ins h with h | h
       · exact .inl h
       · exact .inr (by simp [h])
   · split at h
     · rcases List.mem_cons.1 h with h | h
       · exact .inl h
       · exact .inr h
     · rcases List.mem_cons.1 h with h | h
       · exact .inl h
       · exact .inr (by simp [h])
theorem mem_del {k : ByteArray} {y : Row} : ∀ {l}, y ∈ del k l → y ∈ l
 | [], h => by simp [del] at h
 | x :: l, h => by
   rw [del] at h
   split at h
   · rcases List.mem_cons.1 h with rfl | h
     · simp
     · simp [mem_del h]
   · split at h
     · exact h
     · simp [h]

theorem srt_ins {k : ByteArray} {n : Int} : ∀ {l}, Srt l → Srt (ins k n l)
 | [], _ => by simp [ins, Srt]
 | x :: l, hs => by
   obtain ⟨hx, hl⟩ := srt_cons.1 hs
   rw [ins]
   rcases less_cases x.1 k with h | h | h
   · rw [if_pos h]
     refine srt_cons.2 ⟨fun y hy => ?_, srt_ins hl⟩
     rcases mem_ins hy with rfl | hy
     · exact h
     · exact hx y hy
   · rw [if_neg (by rw [h]; simp [less_irrefl]), if_neg (by rw [h]; simp [less_irrefl])]
     exact srt_cons.2 ⟨fun y hy => by have := hx y hy; rwa [h] at this, hl⟩
   · rw [if_neg (by simp [less_asymm h]), if_pos h]
     refine srt_cons.2 ⟨fun y hy => ?_, hs⟩
     rcases List.mem_cons.1 hy with rfl | hy
     · exact h
     · exact less_trans h (hx y hy)
theorem srt_del {k : ByteArray} : ∀ {l}, Srt l → Srt (del k l)
 | [], h => by simpa [del] using h
 | x :: l, hs => by
   obtain ⟨hx, hl⟩ := srt_cons.1 hs
   rw [del]
   split
   · exact srt_cons.2 ⟨fun y hy => hx y (mem_del hy), srt_del hl⟩
   · split
     · exact hs
     · exact hl

theorem isAt_ins (k : ByteArray) (n : Int) : ∀ l, isAt k (ins k n l) = true
 | [] => by simp [ins, isAt, less_irrefl]
 | x :: l => by
   rw [ins]
   cases h : less x.1 k with
   | true => simp [isAt, h, isAt_ins k n l]
   | false => cases h2 : less k x.1 <;> simp [isAt, less_irrefl]
theorem num_ins (k : ByteArray) (n : Int) : ∀ l, num k (ins k n l) = n
 | [] => by simp [ins, num, less_irrefl]
 | x :: l => by
   rw [ins]
   cases h : less x.1 k with
   | true => simp [num, h, num_ins k n l]
   | false => cases h2 : less k x.1 <;> simp [num, less_irrefl]
theorem isAt_front {k : ByteArray} {l : List Row} (h : ∀ y ∈ l, less k y.1 = true) : isAt k l = false ∧ num k l = 0 := by
 cases l with
 | nil => exact ⟨rfl, rfl⟩
 | cons y l =>
   have hy := h y (by simp)
   simp [isAt, num, hy, less_asymm hy]
theorem isAt_del (k : ByteArray) : ∀ l, Srt l → isAt k (del k l) = false
 | [], _ => rfl
 | x :: l, hs => by
   obtain ⟨hx, hl⟩ := srt_cons.1 hs
   rw [del]
   rcases less_cases x.1 k with h | h | h
   · simp [isAt, h, isAt_del k l hl]
   · rw [h]
     simp only [less_irrefl]
     exact (isAt_front fun y hy => by have := hx y hy; rwa [h] at this).1
   · simp [isAt, h, less_asymm h]

theorem other_ins {k o : ByteArray} (n : Int) (hko : o ≠ k) : ∀ l, Srt l → isAt o (ins k n l) = isAt o l ∧ num o (ins k n l) = num o l
 | [], _ => by
   rcases less_cases k o with h | h | h
   · simp [ins, isAt, num, h]
   · exact absurd h.symm hko
   · simp [ins, isAt, num, h, less_asymm h]
 | x :: l, hs => by
   obtain ⟨hx, hl⟩ := srt_cons.1 hs
   have ih := other_ins n hko l hl
   rcases less_cases x.1 k with h | h | h
   · simp only [ins, h, if_true, isAt, num]
     rw [ih.1, ih.2]; exact ⟨rfl, rfl⟩
   · rcases less_cases k o with g | g | g
     · simp [ins, isAt, num, h, less_irrefl, g]
     · exact absurd g.symm hko
     · simp [ins, isAt, num, h, less_irrefl, g, less_asymm g]
   · rcases less_cases k o with g | g | g
     · simp [ins, isAt, num, h, less_asymm h, g]
     · exact absurd g.symm hko
     · have := less_trans g h
       simp [ins, isAt, num, h, less_asymm h, g, less_asymm g, this, less_asymm this]

theorem other_del {k o : ByteArray} (hko : o ≠ k) : ∀ l, Srt l → isAt o (del k l) = isAt o l ∧ num o (del k l) = num o l
 | [], _ => ⟨rfl, rfl⟩
 | x :: l, hs => by
   obtain ⟨hx, hl⟩ := srt_cons.1 hs
   have ih := other_del hko l hl
   rcases less_cases x.1 k with h | h | h
   · simp only [del, h, if_true, isAt, num]
     rw [ih.1, ih.2]; exact ⟨rfl, rfl⟩
   · rcases less_cases k o with g | g | g
     · simp [del, isAt, num, h, less_irrefl, g]
     · exact absurd g.symm hko
     · have hf := isAt_front (k := o) (l := l) fun y hy => by have := hx y hy; rw [h] at this; exact less_trans g this
       simp [del, isAt, num, h, less_irrefl, g, less_asymm g, hf]
   · simp [del, h, less_asymm h]

def okc (c : UInt8) : Bool := decide (97 ≤ (c.toNat : Int)) && decide ((c.toNat : Int) ≤ 122)
def keyB (s : ByteArray) : Bool := decide (1 ≤ s.size) && decide (s.size ≤ 6) && s.data.toList.all okc

def wrongAt (l : List Row) (i : Nat) : Int :=
 if keyB (l.getD i default).1 = false then 7
 else if 0 < i ∧ less (l.getD (i - 1) default).1 (l.getD i default).1 = false then 2
 else if (l.getD i default).2 < -1073741824 ∨ 1073741824 < (l.getD i default).2 then 3 else 0
def wrongTo (l : List Row) : Nat → Int
 | 0 => 0
 | k + 1 => if wrongTo l k = 0 then wrongAt l k else wrongTo l k
def wrong (l : List Row) : Int := wrongTo l l.length

theorem wrongTo_all {l : List Row} {k : Nat} (h : wrongTo l k = 0) : ∀ i, i < k → wrongAt l i = 0 := by
 induction k with
 | zero => intro i hi; omega
 | succ k ih =>
   rw [wrongTo] at h
   by_cases h0 : wrongTo l k = 0
   · rw [if_pos h0] at h
     intro i hi
     by_cases e : i = k
     · rw [e]; exact h
     · exact ih h0 i (by omega)
   · rw [if_neg h0] at h; exact absurd h h0
structure Right (l : List Row) : Prop where
 srt : Srt l
 key : ∀ x ∈ l, keyB x.1 = true
 lo : ∀ x ∈ l, -1073741824 ≤ x.2
 hi : ∀ x ∈ l, x.2 ≤ 1073741824

theorem wrongAt_zero {l : List Row} {i : Nat} : wrongAt l i = 0 ↔ keyB (l.getD i default).1 = true ∧ (0 < i → less (l.getD (i - 1) default).1 (l.getD i default).1 = true) ∧ -1073741824 ≤ (l.getD i default).2 ∧ (l.getD i default).2 ≤ 1073741824 := by
 unfold wrongAt
 generalize (l.getD i default).2 = m
 cases keyB (l.getD i default).1 with
 | false => simp
 | true =>
   cases less (l.getD (i - 1) default).1 (l.getD i default).1 with
   | true => simp; try omega
   | false =>
     by_cases h : 0 < i
     · simp [h]
     · simp [h]; try omega

theorem getD_of_mem {l : List Row} {x : Row} (h : x ∈ l) : ∃ i, i < l.length ∧ l.getD i default = x := by
 obtain ⟨i, hi, e⟩ := List.getElem_of_mem h
 exact ⟨i, hi, by simp [List.getD, hi, e]⟩
theorem mem_getD {l : List Row} {i : Nat} (h : i < l.length) : l.getD i default ∈ l := by
 simp [List.getD, h]

theorem right_of {l : List Row} (h : wrong l = 0) : Right l := by
 have ha : ∀ i, i < l.length → _ := fun i hi => wrongAt_zero.1 (wrongTo_all h i hi)
 have hp : ∀ d i, i + d + 1 < l.length → less (l.getD i default).1 (l.getD (i + d + 1) default).1 = true := by
   intro d
   induction d with
   | zero =>
     intro i hi
     have := (ha (i + 1) (by omega)).2.1 (by omega)
     simpa using this
   | succ d ih =>
     intro i hi
     have h1 := ih i (by omega)
     have h2 := (ha (i + (d + 1) + 1) (by omega)).2.1 (by omega)
     rw [show i + (d + 1) + 1 - 1 = i + d + 1 from by omega] at h2
     exact less_trans h1 h2
 refine ⟨List.pairwise_iff_getElem.2 fun i j hi hj hij => ?_, fun x hx => ?_, fun x hx => ?_, fun x hx => ?_⟩
 · have := hp (j - i - 1) i (by omega)
   rw [show i + (j - i - 1) + 1 = j from by omega] at this
   simpa [List.getD, hi, hj] using this
 · obtain ⟨i, hi, rfl⟩ := getD_of_mem hx; exact (ha i hi).1
 · obtain ⟨i, hi, rfl⟩ := getD_of_mem hx; exact (ha i hi).2.2.1
 · obtain ⟨i, hi, rfl⟩ := getD_of_mem hx; exact (ha i hi).2.2.2

theorem srt_getD {l : List Row} (h : Srt l) {i j : Nat} (hij : i < j) (hj : j < l.length) : less (l.getD i default).1 (l.getD j default).1 = true := by
 have := List.pairwise_iff_getElem.1 h i j (by omega) hj hij
 simpa [List.getD, hj, show i < l.length by omega] using this

theorem right_ins {k : ByteArray} {n : Int} {l : List Row} (h : Right l) (hk : keyB k = true) (h1 : -1073741824 ≤ n) (h2 : n ≤ 1073741824) : Right (ins k n l) := by
 refine ⟨srt_ins h.srt, fun x hx => ?_, fun x hx => ?_, fun x hx => ?_⟩
 · rcases mem_ins hx with rfl | hx
   · exact hk
   · exact h.key x hx
 · rcases mem_ins hx with rfl | hx
   · exact h1
   · exact h.lo x hx
 · rcases mem_ins hx with rfl | hx
   · exact h2
   · exact h.hi x hx
theorem right_del {k : ByteArray} {l : List Row} (h : Right l) : Right (del k l) :=
 ⟨srt_del h.srt, fun x hx => h.key x (mem_del hx), fun x hx => h.lo x (mem_del hx), fun x hx => h.hi x (mem_del hx)⟩

theorem num_not (k : ByteArray) : ∀ l : List Row, isAt k l = false → num k l = 0
 | [], _ => rfl
 | x :: l, h => by
   rw [isAt] at h
   rw [num]
   cases h1 : less x.1 k with
   | true => simp [h1] at h; simp [num_not k l h]
   | false =>
     simp [h1] at h
     simp [h]
end Go.Proofs.YtlhaeeenkgkdaaaGreatDoor

namespace Go.Proofs.YtlhaeeenkgkdaaaGreatDoor
open Go.RowKit

abbrev Ins := Int × Int × Int × Int × ByteArray
abbrev Ins.kind (i : Ins) : Int := i.1
abbrev Ins.a (i : Ins) : Int := i.2.1
abbrev Ins.b (i : Ins) : Int := i.2.2.1
abbrev Ins.n (i : Ins) : Int := i.2.2.2.1
abbrev Ins.key (i : Ins) : ByteArray := i.2.2.2.2

def has (l : List ByteArray) (k : ByteArray) : Bool := l.any (fun x => decide (x = k))
theorem has_snoc (l : List ByteArray) (x k : ByteArray) : has (l ++ [x]) k = (has l k || decide (x = k)) := by simp [has]
theorem has_iff {l : List ByteArray} {k : ByteArray} : has l k = true ↔ k ∈ l := by simp [has]
theorem take_snoc_getD {α : Type} [Inhabited α] {l : List α} {i : Nat} (h : i < l.length) : l.take (i + 1) = l.take i ++ [l.getD i default] := by
 rw [List.take_succ_eq_append_getElem h]; simp [List.getD, h]
theorem has_take_true {l : List ByteArray} {k : ByteArray} {i : Nat} (h : has (l.take i) k = true) : has l k = true := by
 rw [has_iff] at *; exact List.mem_of_mem_take h

def badAt (l : List ByteArray) (i : Nat) : Bool := !keyB (l.getD i default) || has (l.take i) (l.getD i default)
def badTo (l : List ByteArray) : Nat → Bool
 | 0 => false
 | k + 1 => badTo l k || badAt l k
def wKeys (l : List ByteArray) : Int := if 5 < l.length then 5 else if badTo l l.length = true then 7 else 0
theorem badTo_mono {l : List ByteArray} {k : Nat} (h : badTo l k = true) : ∀ d, badTo l (k + d) = true
 | 0 => h
 | d + 1 => by
   show (badTo l (k + d) || badAt l (k + d)) = true
   rw [badTo_mono h d]; rfl
theorem badTo_all {l : List ByteArray} {k : Nat} (hk : k < l.length) (h : badAt l k = true) : badTo l l.length = true := by
 have : badTo l (k + 1) = true := by simp [badTo, h]
 have := badTo_mono this (l.length - (k + 1))
 rwa [show k + 1 + (l.length - (k + 1)) = l.length from by omega] at this
theorem badTo_false {l : List ByteArray} {k : Nat} (h : badTo l k = false) : ∀ i, i < k → badAt l i = false := by
 induction k with
 | zero => intro i hi; omega
 | succ k ih =>
   simp only [badTo, Bool.or_eq_false_iff] at h
   intro i hi
   by_cases e : i = k
   · rw [e]; exact h.2
   · exact ih h.1 i (by omega)
theorem wKeys_len {l : List ByteArray} (h : wKeys l = 0) : l.length ≤ 5 := by
 unfold wKeys at h
 split at h
 · cases h
 · omega
theorem wKeys_bad {l : List ByteArray} (h : wKeys l = 0) : badTo l l.length = false := by
 unfold wKeys at h
 split at h
 · cases h
 · split at h
   · cases h
   · rename_i h2; simpa using h2
theorem wKeys_key {l : List ByteArray} (h : wKeys l = 0) {k : ByteArray} (hk : k ∈ l) : keyB k = true := by
 obtain ⟨i, hi, rfl⟩ := List.getElem_of_mem hk
 have := badTo_false (wKeys_bad h) i hi
 simp only [badAt, Bool.or_eq_false_iff] at this
 simpa [List.getD, hi] using this.1
theorem wKeys_nodup {l : List ByteArray} (h : wKeys l = 0) : l.Nodup := by
 rw [List.nodup_iff_pairwise_ne, List.pairwise_iff_getElem]
 intro i j hi hj hij e
 have := badTo_false (wKeys_bad h) j hj
 simp only [badAt, Bool.or_eq_false_iff] at this
 have h2 := this.2
 have : has (l.take j) (l.getD j default) = true := by
   rw [has_iff, List.mem_take_iff_getElem]
   exact ⟨i, by omega, by simp [List.getD, hj, e]⟩
 rw [this] at h2; cases h2

def regFit (n : Int) (h : Bool) : Bool := if h then decide (0 ≤ n) && decide (n < 4) else decide (n = 0)
def hasB (kind : Int) : Bool := decide (kind = 3) || decide (kind = 4) || decide (kind = 5)
def regsFit (i : Ins) : Bool := regFit i.a (!decide (i.kind = 7)) && regFit i.b (hasB i.kind)
def numFit (i : Ins) (behind : Int) : Bool := if i.kind = 2 then decide (-1073741824 ≤ i.n) && decide (i.n ≤ 1073741824) else if i.kind = 8 then decide (1 ≤ i.n) && decide (i.n ≤ behind) else decide (i.n = 0)
def noKey (l : List ByteArray) (k : ByteArray) : Int := if has l k = true then 0 else 9
def wIns (R W : List ByteArray) (i : Ins) (behind : Int) : Int :=
 if i.kind < 1 ∨ 9 < i.kind then 1
 else if regsFit i = false ∨ numFit i behind = false then 3
 else if i.kind = 1 then noKey R i.key
 else if i.kind = 6 ∨ i.kind = 7 then noKey W i.key
 else if i.key.size = 0 then 0 else 2
def wCode (R W : List ByteArray) (C : List Ins) : Nat → Int
 | 0 => 0
 | k + 1 => if wCode R W C k = 0 then wIns R W (C.getD k default) ((C.length : Int) - 1 - k) else wCode R W C k
def wDeed (R W : List ByteArray) (C : List Ins) : Int :=
 if wKeys R ≠ 0 then wKeys R else if wKeys W ≠ 0 then wKeys W else if 12 < C.length then 5 else wCode R W C C.length

theorem wCode_stays {R W : List ByteArray} {C : List Ins} {k : Nat} (h : wCode R W C k ≠ 0) : ∀ d, wCode R W C (k + d) = wCode R W C k
 | 0 => rfl
 | d + 1 => by
   have := wCode_stays h d
   show wCode R W C (k + d + 1) = _
   rw [wCode, this, if_neg h]
theorem wCode_at {R W : List ByteArray} {C : List Ins} {k : Nat} (hk : k < C.length) (h0 : wCode R W C k = 0) (h : wIns R W (C.getD k default) ((C.length : Int) - 1 - k) ≠ 0) : wCode R W C C.length = wIns R W (C.getD k default) ((C.length : Int) - 1 - k) := by
 have e : wCode R W C (k + 1) = wIns R W (C.getD k default) ((C.length : Int) - 1 - k) := by rw [wCode, if_pos h0]
 have := wCode_stays (R := R) (W := W) (C := C) (k := k + 1) (by rw [e]; exact h) (C.length - (k + 1))
 rw [show k + 1 + (C.length - (k + 1)) = C.length from by omega, e] at this
 exact this
theorem wCode_step {R W : List ByteArray} {C : List Ins} {k : Nat} (h0 : wCode R W C k = 0) (h : wIns R W (C.getD k default) ((C.length : Int) - 1 - k) = 0) : wCode R W C (k + 1) = 0 := by
 rw [wCode, if_pos h0, h]
theorem wCode_all {R W : List ByteArray} {C : List Ins} {k : Nat} (h : wCode R W C k = 0) : ∀ i, i < k → wIns R W (C.getD i default) ((C.length : Int) - 1 - i) = 0 := by
 induction k with
 | zero => intro i hi; omega
 | succ k ih =>
   rw [wCode] at h
   by_cases h0 : wCode R W C k = 0
   · rw [if_pos h0] at h
     intro i hi
     by_cases e : i = k
     · rw [e]; exact h
     · exact ih h0 i (by omega)
   · rw [if_neg h0] at h; exact absurd h h0

structure RightD (R W : List ByteArray) (C : List Ins) : Prop where
 r : wKeys R = 0
 w : wKeys W = 0
 c : C.length ≤ 12
 i : ∀ k, k < C.length → wIns R W (C.getD k default) ((C.length : Int) - 1 - k) = 0
theorem right_deed {R W : List ByteArray} {C : List Ins} (h : wDeed R W C = 0) : RightD R W C := by
 unfold wDeed at h
 split at h
 · rename_i h1; exact absurd h h1
 split at h
 · rename_i _ h1; exact absurd h h1
 split at h
 · cases h
 · rename_i h1 h2 h3
   exact ⟨by simpa using h1, by simpa using h2, by omega, wCode_all h⟩

structure RightI (R W : List ByteArray) (i : Ins) (behind : Int) : Prop where
 lo : 1 ≤ i.kind
 hi : i.kind ≤ 9
 a0 : 0 ≤ i.a
 a4 : i.a < 4
 b0 : 0 ≤ i.b
 b4 : i.b < 4
 skip : i.kind = 8 → 1 ≤ i.n ∧ i.n ≤ behind
 load : i.kind = 1 → has R i.key = true
 write : i.kind = 6 ∨ i.kind = 7 → has W i.key = true
theorem regFit_bounds {n : Int} {h : Bool} (e : regFit n h = true) : 0 ≤ n ∧ n < 4 := by
 cases h <;> simp [regFit] at e <;> omega
theorem noKey_has {l : List ByteArray} {k : ByteArray} (h : noKey l k = 0) : has l k = true := by
 unfold noKey at h; split at h
 · assumption
 · cases h
theorem right_instr {R W : List ByteArray} {i : Ins} {behind : Int} (h : wIns R W i behind = 0) : RightI R W i behind := by
 unfold wIns at h
 split at h
 · cases h
 split at h
 · cases h
 rename_i h1 h2
 have h3 : regsFit i = true ∧ numFit i behind = true := by
   constructor
   · cases e : regsFit i with
     | true => rfl
     | false => exact absurd (.inl e) h2
   · cases e : numFit i behind with
     | true => rfl
     | false => exact absurd (.inr e) h2
 obtain ⟨hr, hn⟩ := h3
 simp only [regsFit, Bool.and_eq_true] at hr
 have ha := regFit_bounds hr.1
 have hb := regFit_bounds hr.2
 refine ⟨by omega, by omega, ha.1, ha.2, hb.1, hb.2, fun e => ?_, fun e => ?_, fun e => ?_⟩
 · simp [numFit, e] at hn; exact hn
 · rw [if_pos e] at h; exact noKey_has h
 · rw [if_neg (by omega), if_pos e] at h; exact noKey_has h

abbrev Made := ByteArray → Option (Option Int)
def setR (r : Nat → Int) (i : Nat) (x : Int) : Nat → Int := fun j => if j = i then x else r j
def setM (m : Made) (k : ByteArray) (x : Option Int) : Made := fun j => if j = k then some x else m j
def look (v : ByteArray → Int) (m : Made) (k : ByteArray) : Int := match m k with
 | some (some n) => n
 | some none => 0
 | none => v k
def zeroR : Nat → Int := fun _ => 0
def zeroM : Made := fun _ => none
def rnd (x : Int) : Int := (wrap64 x).tmod 1073741825
def exec (v : ByteArray → Int) : List Ins → Nat → (Nat → Int) → Made → (Nat → Int) × Made × Bool
 | [], _, r, m => (r, m, false)
 | _ :: l, k + 1, r, m => exec v l k r m
 | i :: l, 0, r, m =>
   if i.kind = 1 then exec v l 0 (setR r i.a.toNat (look v m i.key)) m
   else if i.kind = 2 then exec v l 0 (setR r i.a.toNat i.n) m
   else if i.kind = 3 then exec v l 0 (setR r i.a.toNat (rnd (r i.a.toNat + r i.b.toNat))) m
   else if i.kind = 4 then exec v l 0 (setR r i.a.toNat (rnd (r i.a.toNat - r i.b.toNat))) m
   else if i.kind = 5 then exec v l 0 (setR r i.a.toNat (rnd (r i.a.toNat * r i.b.toNat))) m
   else if i.kind = 6 then exec v l 0 r (setM m i.key (some (r i.a.toNat)))
   else if i.kind = 7 then exec v l 0 r (setM m i.key none)
   else if i.kind = 8 then exec v l (if r i.a.toNat ≤ 0 then i.n.toNat else 0) r m
   else if r i.a.toNat < 0 then (r, m, true) else exec v l 0 r m
theorem exec_drop (v : ByteArray → Int) : ∀ (l : List Ins) (k : Nat) (r : Nat → Int) (m : Made), exec v l k r m = exec v (l.drop k) 0 r m
 | [], k, r, m => by simp [exec]
 | i :: l, 0, r, m => by simp
 | i :: l, k + 1, r, m => by
   rw [exec, List.drop_succ_cons]; exact exec_drop v l k r m
theorem drop_at {C : List Ins} {k : Nat} (h : k < C.length) : C.drop k = C.getD k default :: C.drop (k + 1) := by
 rw [List.drop_eq_getElem_cons h]; simp [List.getD, h]
def vers (m : Made) (W : List ByteArray) : List (ByteArray × Option Int) := W.filterMap (fun k => (m k).map (fun o => (k, o)))
theorem vers_snoc (m : Made) (W : List ByteArray) (k : ByteArray) : vers m (W ++ [k]) = vers m W ++ (match m k with | some o => [(k, o)] | none => []) := by
 unfold vers; rw [List.filterMap_append]
 cases h : m k <;> simp [h]
end Go.Proofs.YtlhaeeenkgkdaaaGreatDoor

namespace Go.Proofs.YtlhaeeenkgkdaaaGreatDoor
open Go.Lib

theorem parse_append : ∀ (l m : List UInt8) (acc : Nat), parseUint10 acc (l ++ m) = match parseUint10 acc l with
   | .ok v => parseUint10 v m
   | .syntax => .syntax
   | .range => .range
 | [], m, acc => by simp [parseUint10]
 | c :: l, m, acc => by
   simp only [List.cons_append, parseUint10]
   split
   · split
     · rfl
     · split
       · rfl
       · exact parse_append l m _
   · rfl
theorem digit_toNat {d : Nat} (h : d < 10) : (UInt8.ofNat (48 + d)).toNat = 48 + d := by
 rw [UInt8.toNat_ofNat']; omega
theorem parse_digit {acc d : Nat} (h : d < 10) (hb : acc * 10 + d < 18446744073709551616) : parseUint10 acc [UInt8.ofNat (48 + d)] = .ok (acc * 10 + d) := by
 simp only [parseUint10]
 rw [digit_toNat h, if_pos (by omega), if_neg (by omega), if_neg (by omega)]
 congr 1; omega
theorem parse_digits : ∀ (u : Nat), u < 18446744073709551616 → parseUint10 0 (decDigits u) = .ok u := by
 intro u
 induction u using Nat.strongRecOn with
 | _ u ih =>
   intro hu
   by_cases h : u < 10
   · rw [decDigits, dif_pos h, parse_digit h (by omega)]; simp
   · rw [decDigits, dif_neg h, parse_append, ih (u / 10) (by omega) (by omega)]
     show parseUint10 (u / 10) _ = _
     rw [parse_digit (by omega) (by omega)]
     congr 1; omega
theorem digits_all : ∀ (u : Nat), ∀ c ∈ decDigits u, 48 ≤ c.toNat ∧ c.toNat ≤ 57 := by
 intro u
 induction u using Nat.strongRecOn with
 | _ u ih =>
   intro c hc
   by_cases h : u < 10
   · rw [decDigits, dif_pos h] at hc
     simp only [List.mem_singleton] at hc
     rw [hc, digit_toNat h]; omega
   · rw [decDigits, dif_neg h] at hc
     rcases List.mem_append.1 hc with hc | hc
     · exact ih (u / 10) (by omega) c hc
     · simp only [List.mem_singleton] at hc
       rw [hc, digit_toNat (by omega)]; omega
theorem digits_ne (u : Nat) : decDigits u ≠ [] := by
 rw [decDigits]; split <;> simp
theorem atoi_itoa (n : Int) (h0 : -9223372036854775808 ≤ n) (h1 : n ≤ 9223372036854775807) : atoiAll (itoa n) = .ok n := by
 by_cases hn : n < 0
 · obtain ⟨u, rfl⟩ : ∃ u : Nat, n = -(u : Int) := ⟨n.natAbs, by omega⟩
   rw [itoa_neg u (by omega), atoiAll_minus]
   unfold parseMag
   rw [if_neg (digits_ne u), parse_digits u (by omega)]
   simp only [signed]
   rw [if_neg (by omega)]
 · obtain ⟨u, rfl⟩ : ∃ u : Nat, n = (u : Int) := ⟨n.toNat, by omega⟩
   rw [itoa_nonneg u]
   cases hd : decDigits u with
   | nil => exact absurd hd (digits_ne u)
   | cons c r =>
     have hc := digits_all u c (by rw [hd]; simp)
     rw [atoiAll_plain c r (by omega) (by omega), ← hd]
     unfold parseMag
     rw [if_neg (digits_ne u), parse_digits u (by omega)]
     simp only [signless]
     rw [if_neg (by omega)]
def numOf (s : List UInt8) : Option Int := match atoiAll s with
 | .ok n => if itoa n = s then some n else none
 | _ => none
theorem numOf_itoa (n : Int) (h0 : -9223372036854775808 ≤ n) (h1 : n ≤ 9223372036854775807) : numOf (itoa n) = some n := by
 unfold numOf; rw [atoi_itoa n h0 h1]; simp
def plainC (c : UInt8) : Bool := c != 32 && c != 59
theorem itoa_plain (n : Int) : ∀ c ∈ itoa n, plainC c = true := by
 intro c hc
 have key : ∀ c : UInt8, 45 ≤ c.toNat ∧ c.toNat ≤ 57 → plainC c = true := fun c h => by
   have h1 : c ≠ 32 := fun e => by rw [e] at h; revert h; decide
   have h2 : c ≠ 59 := fun e => by rw [e] at h; revert h; decide
   simp [plainC, h1, h2]
 unfold itoa at hc
 split at hc
 · rcases List.mem_cons.1 hc with rfl | hc
   · decide
   · have := digits_all _ c hc; exact key c (by omega)
 · have := digits_all _ c hc; exact key c (by omega)
end Go.Proofs.YtlhaeeenkgkdaaaGreatDoor

namespace Go.Proofs.YtlhaeeenkgkdaaaGreatDoor
open Go.Lib

abbrev T := List UInt8

def spl1 (cur : T) : T → List T
 | [] => [cur]
 | c :: s => if c = 32 then cur :: spl1 [] s else spl1 (cur ++ [c]) s
def spl2 (cur : T) : T → List T
 | [] => [cur]
 | [c] => [cur ++ [c]]
 | c :: d :: s => if c = 59 ∧ d = 32 then cur :: spl2 [] s else spl2 (cur ++ [c]) (d :: s)
def join1 : List T → T
 | [] => []
 | [x] => x
 | x :: y :: l => x ++ 32 :: join1 (y :: l)
def join2 : List T → T
 | [] => []
 | [x] => x
 | x :: y :: l => x ++ 59 :: 32 :: join2 (y :: l)

theorem spl1_ne (cur s : T) : spl1 cur s ≠ [] := by
 induction s generalizing cur with
 | nil => simp [spl1]
 | cons c s ih => rw [spl1]; split <;> simp [ih]
theorem join1_cons (x : T) {l : List T} (h : l ≠ []) : join1 (x :: l) = x ++ 32 :: join1 l := by
 cases l with
 | nil => exact absurd rfl h
 | cons y l => rfl
theorem spl1_word (w cur s : T) (h : ∀ c ∈ w, c ≠ 32) : spl1 cur (w ++ s) = spl1 (cur ++ w) s := by
 induction w generalizing cur with
 | nil => simp
 | cons c w ih =>
   rw [List.cons_append, spl1, if_neg (h c (by simp)), ih _ (fun d hd => h d (by simp [hd]))]; simp
theorem spl1_join1 : ∀ (l : List T), l ≠ [] → (∀ x ∈ l, ∀ c ∈ x, c ≠ 32) → spl1 [] (join1 l) = l
 | [], h, _ => absurd rfl h
 | [x], _, hx => by
   have := spl1_word x [] [] (hx x (by simp))
   simpa [join1, spl1] using this
 | x :: y :: l, _, hx => by
   rw [join1_cons x (by simp), spl1_word x [] _ (hx x (by simp))]
   rw [spl1, if_pos rfl, spl1_join1 (y :: l) (by simp) (fun z hz => hx z (by simp [hz]))]
   simp

theorem join2_cons (x : T) {l : List T} (h : l ≠ []) : join2 (x :: l) = x ++ 59 :: 32 :: join2 l := by
 cases l with
 | nil => exact absurd rfl h
 | cons y l => rfl
theorem spl2_step (c : UInt8) (s cur : T) (h : c ≠ 59) : spl2 cur (c :: s) = spl2 (cur ++ [c]) s := by
 cases s with
 | nil => simp [spl2]
 | cons d s => rw [spl2, if_neg (fun e => h e.1)]
theorem spl2_word (w cur s : T) (h : ∀ c ∈ w, c ≠ 59) : spl2 cur (w ++ s) = spl2 (cur ++ w) s := by
 induction w generalizing cur with
 | nil => simp
 | cons c w ih =>
   rw [List.cons_append, spl2_step c _ _ (h c (by simp)), ih _ (fun d hd => h d (by simp [hd]))]; simp
theorem spl2_join2 : ∀ (l : List T), l ≠ [] → (∀ x ∈ l, ∀ c ∈ x, c ≠ 59) → spl2 [] (join2 l) = l
 | [], h, _ => absurd rfl h
 | [x], _, hx => by
   have := spl2_word x [] [] (hx x (by simp))
   simpa [join2, spl2] using this
 | x :: y :: l, _, hx => by
   rw [join2_cons x (by simp), spl2_word x [] _ (hx x (by simp))]
   rw [spl2, if_pos ⟨rfl, rfl⟩, spl2_join2 (y :: l) (by simp) (fun z hz => hx z (by simp [hz]))]
   simp
theorem join1_mem {c : UInt8} : ∀ {l : List T}, c ∈ join1 l → c = 32 ∨ ∃ x ∈ l, c ∈ x
 | [], h => by simp [join1] at h
 | [x], h => .inr ⟨x, by simp, by simpa [join1] using h⟩
 | x :: y :: l, h => by
   rw [join1_cons x (by simp)] at h
   rcases List.mem_append.1 h with h | h
   · exact .inr ⟨x, by simp, h⟩
   · rcases List.mem_cons.1 h with h | h
     · exact .inl h
     · rcases join1_mem h with h | ⟨z, hz, h⟩
       · exact .inl h
       · exact .inr ⟨z, by simp [hz], h⟩

def keyT (k : ByteArray) : T := k.data.toList
def ofT (t : T) : ByteArray := ⟨t.toArray⟩
theorem ofT_keyT (k : ByteArray) : ofT (keyT k) = k := by cases k; simp [ofT, keyT]
theorem keyT_ofT (t : T) : keyT (ofT t) = t := by simp [ofT, keyT]
def wReads : T := [114, 101, 97, 100, 115]
def wWrites : T := [119, 114, 105, 116, 101, 115]
def word (k : Nat) : T := match k with
 | 1 => [108, 111, 97, 100]
 | 2 => [99, 111, 110, 115, 116]
 | 3 => [97, 100, 100]
 | 4 => [115, 117, 98]
 | 5 => [109, 117, 108]
 | 6 => [115, 116, 111, 114, 101]
 | 7 => [100, 114, 111, 112]
 | 8 => [115, 107, 105, 112]
 | 9 => [102, 97, 105, 108]
 | _ => []
def reg (n : Int) : T := 114 :: itoa n
def insWords (i : Ins) : List T :=
 if i.kind = 1 then [word 1, reg i.a, keyT i.key]
 else if i.kind = 2 then [word 2, reg i.a, itoa i.n]
 else if i.kind = 3 then [word 3, reg i.a, reg i.b]
 else if i.kind = 4 then [word 4, reg i.a, reg i.b]
 else if i.kind = 5 then [word 5, reg i.a, reg i.b]
 else if i.kind = 6 then [word 6, reg i.a, keyT i.key]
 else if i.kind = 7 then [word 7, keyT i.key]
 else if i.kind = 8 then [word 8, reg i.a, itoa i.n]
 else [word 9, reg i.a]
def partsOf (R W : List ByteArray) (C : List Ins) : List (List T) := (wReads :: R.map keyT) :: (wWrites :: W.map keyT) :: C.map insWords
def printT (R W : List ByteArray) (C : List Ins) : T := join2 ((partsOf R W C).map join1)

def kindOf (w : T) : Nat :=
 if w = word 1 then 1 else if w = word 2 then 2 else if w = word 3 then 3 else if w = word 4 then 4 else if w = word 5 then 5 else if w = word 6 then 6 else if w = word 7 then 7 else if w = word 8 then 8 else if w = word 9 then 9 else 0
def regOf : T → Option Int
 | [] => none
 | c :: r => if c = 114 then numOf r else none
def readIns (l : List T) : Int × Ins :=
 let k := kindOf (l.headD [])
 if k = 0 then (1, default)
 else if k = 1 ∨ k = 6 then match l with
   | [_, x, y] => (match regOf x with | some a => (0, ((k : Int), a, 0, 0, ofT y)) | none => (2, default))
   | _ => (2, default)
 else if k = 2 ∨ k = 8 then match l with
   | [_, x, y] => (match regOf x with | some a => (match numOf y with | some n => (0, ((k : Int), a, 0, n, ⟨#[]⟩)) | none => (2, default)) | none => (2, default))
   | _ => (2, default)
 else if k = 7 then match l with
   | [_, y] => (0, (7, 0, 0, 0, ofT y))
   | _ => (2, default)
 else if k = 9 then match l with
   | [_, x] => (match regOf x with | some a => (0, (9, a, 0, 0, ⟨#[]⟩)) | none => (2, default))
   | _ => (2, default)
 else match l with
   | [_, x, y] => (match regOf x with | some a => (match regOf y with | some b => (0, ((k : Int), a, b, 0, ⟨#[]⟩)) | none => (2, default)) | none => (2, default))
   | _ => (2, default)
def readCode : List T → Int × List Ins
 | [] => (0, [])
 | p :: ps => match readIns (spl1 [] p) with
   | (0, i) => (match readCode ps with
     | (0, C) => (0, i :: C)
     | (e, _) => (e, []))
   | (e, _) => (e, [])
def readT (s : T) : Int × List ByteArray × List ByteArray × List Ins :=
 if 400 < s.length then (4, [], [], [])
 else match spl2 [] s with
   | p0 :: p1 :: ps =>
     if (spl1 [] p0).headD [] ≠ wReads then (2, [], [], [])
     else if (spl1 [] p1).headD [] ≠ wWrites then (2, [], [], [])
     else match readCode ps with
       | (0, C) =>
         let R := ((spl1 [] p0).drop 1).map ofT
         let W := ((spl1 [] p1).drop 1).map ofT
         if wDeed R W C = 0 then (0, R, W, C) else (wDeed R W C, [], [], [])
       | (e, _) => (e, [], [], [])
   | _ => (8, [], [], [])
end Go.Proofs.YtlhaeeenkgkdaaaGreatDoor
