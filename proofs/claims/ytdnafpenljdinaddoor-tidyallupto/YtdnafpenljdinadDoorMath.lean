/-
  Plain mathematics of rows, with no program in sight: the order of keys, what a key has in a list of rows, putting and dropping a key, and when rows are right.
-/
import Derived.WalkKit
namespace Go.Proofs.YtdnafpenljdinadDoor

/-- A row: a key and its number. -/
abbrev Row := ByteArray × Int

/-- Go's order of strings. -/
def less (a b : ByteArray) : Bool := Op.bytesLess a.toList b.toList

theorem bytesLess_lt : ∀ (x y : List UInt8), Op.bytesLess x y = decide (x < y)
  | [], [] => by simp [Op.bytesLess]
  | _ :: _, [] => by simp [Op.bytesLess]
  | [], _ :: _ => by simp [Op.bytesLess]
  | a :: x, b :: y => by
    rw [Op.bytesLess, bytesLess_lt x y]
    simp only [List.cons_lt_cons_iff]
    by_cases h1 : a < b <;> by_cases h2 : a = b <;> by_cases h3 : x < y <;> simp [h1, h2, h3]

theorem toList_inj {a b : ByteArray} (h : a.toList = b.toList) : a = b := by
  rw [ByteArray.toList_eq, ByteArray.toList_eq] at h
  cases a; cases b
  simpa using h

theorem less_def (a b : ByteArray) : less a b = decide (a.toList < b.toList) := bytesLess_lt _ _

theorem less_irrefl (a : ByteArray) : less a a = false := by
  rw [less_def]; simp [List.lt_irrefl]

theorem less_trans {a b c : ByteArray} (h : less a b = true) (k : less b c = true) : less a c = true := by
  rw [less_def] at *
  simp only [decide_eq_true_eq] at *
  exact List.lt_trans h k

theorem less_asymm {a b : ByteArray} (h : less a b = true) : less b a = false := by
  cases k : less b a with
  | false => rfl
  | true => have := less_trans h k; rw [less_irrefl] at this; cases this

theorem less_tri {a b : ByteArray} (h : less a b = false) (k : less b a = false) : a = b := by
  rw [less_def] at *
  simp only [decide_eq_false_iff_not] at *
  exact toList_inj (List.le_antisymm (by simpa using k) (by simpa using h))

theorem less_ne {a b : ByteArray} (h : less a b = true) : a ≠ b := by
  rintro rfl; rw [less_irrefl] at h; cases h

/-- One key, or less, or more. -/
theorem less_cases (a b : ByteArray) : less a b = true ∨ a = b ∨ less b a = true := by
  cases h : less a b with
  | true => exact .inl rfl
  | false => cases k : less b a with
    | true => exact .inr (.inr rfl)
    | false => exact .inr (.inl (less_tri h k))

/-! ### Putting and dropping -/
/-- The rows with key k, which has n. -/
def ins (k : ByteArray) (n : Int) : List Row → List Row
  | [] => [(k, n)]
  | x :: l => if less x.1 k then x :: ins k n l else if less k x.1 then (k, n) :: x :: l else (k, n) :: l
/-- The rows without key k. -/
def del (k : ByteArray) : List Row → List Row
  | [] => []
  | x :: l => if less x.1 k then x :: del k l else if less k x.1 then x :: l else l
/-- Where k stands, or would stand. -/
def pos (k : ByteArray) : List Row → Nat
  | [] => 0
  | x :: l => if less x.1 k then pos k l + 1 else 0
/-- Is k there, at its place? -/
def isAt (k : ByteArray) : List Row → Bool
  | [] => false
  | x :: l => if less x.1 k then isAt k l else !less k x.1
/-- What k has; 0 where it has nothing. -/
def num (k : ByteArray) : List Row → Int
  | [] => 0
  | x :: l => if less x.1 k then num k l else if less k x.1 then 0 else x.2
/-- Rows that rise. -/
def Srt (l : List Row) : Prop := l.Pairwise (fun x y => less x.1 y.1 = true)

theorem pos_le (k : ByteArray) : ∀ l, pos k l ≤ l.length
  | [] => Nat.le_refl _
  | x :: l => by
    have := pos_le k l
    simp only [pos]; split
    · simp; omega
    · simp

theorem ins_cut (k : ByteArray) (n : Int) : ∀ l, ins k n l = l.take (pos k l) ++ (k, n) :: l.drop (pos k l + if isAt k l = true then 1 else 0)
  | [] => by simp [ins, pos, isAt]
  | x :: l => by
    rw [ins, pos, isAt]
    cases h : less x.1 k with
    | true =>
      simp only [if_true]
      rw [show (pos k l + 1 + if isAt k l = true then 1 else 0) = (pos k l + if isAt k l = true then 1 else 0) + 1 from Nat.add_right_comm _ _ _]
      simp [ins_cut k n l]
    | false => cases h2 : less k x.1 <;> simp

theorem del_cut (k : ByteArray) : ∀ l, del k l = l.take (pos k l) ++ l.drop (pos k l + if isAt k l = true then 1 else 0)
  | [] => by simp [del, pos, isAt]
  | x :: l => by
    rw [del, pos, isAt]
    cases h : less x.1 k with
    | true =>
      simp only [if_true]
      rw [show (pos k l + 1 + if isAt k l = true then 1 else 0) = (pos k l + if isAt k l = true then 1 else 0) + 1 from Nat.add_right_comm _ _ _]
      simp [del_cut k l]
    | false => cases h2 : less k x.1 <;> simp

theorem ins_length (k : ByteArray) (n : Int) : ∀ l, (ins k n l).length ≤ l.length + 1
  | [] => by simp [ins]
  | x :: l => by
    have := ins_length k n l
    rw [ins]; split
    · simp; omega
    · split <;> simp
theorem del_length (k : ByteArray) : ∀ l, (del k l).length ≤ l.length
  | [] => by simp [del]
  | x :: l => by
    have := del_length k l
    rw [del]; split
    · simp; omega
    · split <;> simp

/-! ### Two keys, either way -/
theorem ins_front {k : ByteArray} {n : Int} {l : List Row} (h : ∀ y ∈ l, less k y.1 = true) : ins k n l = (k, n) :: l := by
  cases l with
  | nil => rfl
  | cons y l =>
    have hy := h y (by simp)
    simp [ins, hy, less_asymm hy]

theorem ins_ins {a b : ByteArray} (n m : Int) (hab : a ≠ b) : ∀ l, ins b m (ins a n l) = ins a n (ins b m l)
  | [] => by
    rcases less_cases a b with h | h | h
    · simp [ins, h, less_asymm h]
    · exact absurd h hab
    · simp [ins, h, less_asymm h]
  | x :: l => by
    have ih := ins_ins n m hab l
    rcases less_cases a b with h | h | h
    · have hba := less_asymm h
      rcases less_cases x.1 a with ha | ha | ha
      · have hb := less_trans ha h
        simp [ins, ha, hb, ih]
      · have hb : less x.1 b = true := by rw [ha]; exact h
        simp [ins, ha, h, less_irrefl]
      · rcases less_cases x.1 b with hb | hb | hb
        · simp [ins, ha, less_asymm ha, hb, h]
        · simp [ins, ← hb, ha, less_asymm ha, less_irrefl]
        · simp [ins, ha, less_asymm ha, hb, less_asymm hb, h, hba]
    · exact absurd h hab
    · have hab' := less_asymm h
      rcases less_cases x.1 b with hb | hb | hb
      · have ha := less_trans hb h
        simp [ins, ha, hb, ih]
      · simp [ins, hb, h, less_irrefl]
      · rcases less_cases x.1 a with ha | ha | ha
        · simp [ins, ha, less_asymm hb, hb, h]
        · simp [ins, ← ha, hb, less_asymm hb, less_irrefl]
        · simp [ins, ha, less_asymm ha, hb, less_asymm hb, h, hab']

theorem srt_cons {x : Row} {l : List Row} : Srt (x :: l) ↔ (∀ y ∈ l, less x.1 y.1 = true) ∧ Srt l := List.pairwise_cons

theorem del_ins {a b : ByteArray} (n : Int) (hab : a ≠ b) : ∀ l, Srt l → del b (ins a n l) = ins a n (del b l)
  | [], _ => by
    rcases less_cases a b with h | h | h
    · simp [ins, del, h]
    · exact absurd h hab
    · simp [ins, del, h, less_asymm h]
  | x :: l, hs => by
    obtain ⟨hx, hl⟩ := srt_cons.1 hs
    have ih := del_ins n hab l hl
    rcases less_cases a b with h | h | h
    · rcases less_cases x.1 a with ha | ha | ha
      · have hb := less_trans ha h
        simp [ins, del, ha, hb, ih]
      · simp [ins, del, ha, h, less_irrefl]
      · rcases less_cases x.1 b with hb | hb | hb
        · simp [ins, del, ha, less_asymm ha, hb, h]
        · have hf : ins a n l = (a, n) :: l := ins_front fun y hy => less_trans ha (hx y hy)
          rw [hb] at ha
          simp [ins, del, hb, ha, less_asymm ha, less_irrefl, hf]
        · simp [ins, del, ha, less_asymm ha, hb, less_asymm hb, h]
    · exact absurd h hab
    · rcases less_cases x.1 b with hb | hb | hb
      · have ha := less_trans hb h
        simp [ins, del, ha, hb, ih]
      · simp [ins, del, hb, h, less_irrefl]
      · rcases less_cases x.1 a with ha | ha | ha
        · simp [ins, del, ha, hb, less_asymm hb]
        · rw [ha] at hb
          simp [ins, del, ha, hb, less_asymm hb, less_irrefl]
        · simp [ins, del, ha, less_asymm ha, hb, less_asymm hb, h, less_asymm h]

/-! ### Order is kept -/
theorem mem_ins {k : ByteArray} {n : Int} {y : Row} : ∀ {l}, y ∈ ins k n l → y = (k, n) ∨ y ∈ l
  | [], h => by simp [ins] at h; exact .inl h
  | x :: l, h => by
    rw [ins] at h
    split at h
    · rcases List.mem_cons.1 h with rfl | h
      · exact .inr (by simp)
      · rcases mem_ins h with h | h
        · exact .inl h
        · exact .inr (by simp [h])
    · split at h
      · rcases List.mem_cons.1 h with h | h
        · exact .inl h
        · exact .inr h
      · rcases List.mem_cons.1 h with h | h
        · exact .inl h
        · exact .inr (by simp [h])
theorem mem_del {k : ByteArray} {y : Row} : ∀ {l}, y ∈ del k l → y ∈ l
  | [], h => by simp [del] at h
  | x :: l, h => by
    rw [del] at h
    split at h
    · rcases List.mem_cons.1 h with rfl | h
      · simp
      · simp [mem_del h]
    · split at h
      · exact h
      · simp [h]

theorem srt_ins {k : ByteArray} {n : Int} : ∀ {l}, Srt l → Srt (ins k n l)
  | [], _ => by simp [ins, Srt]
  | x :: l, hs => by
    obtain ⟨hx, hl⟩ := srt_cons.1 hs
    rw [ins]
    rcases less_cases x.1 k with h | h | h
    · rw [if_pos h]
      refine srt_cons.2 ⟨fun y hy => ?_, srt_ins hl⟩
      rcases mem_ins hy with rfl | hy
      · exact h
      · exact hx y hy
    · rw [if_neg (by rw [h]; simp [less_irrefl]), if_neg (by rw [h]; simp [less_irrefl])]
      exact srt_cons.2 ⟨fun y hy => by have := hx y hy; rwa [h] at this, hl⟩
    · rw [if_neg (by simp [less_asymm h]), if_pos h]
      refine srt_cons.2 ⟨fun y hy => ?_, hs⟩
      rcases List.mem_cons.1 hy with rfl | hy
      · exact h
      · exact less_trans h (hx y hy)
theorem srt_del {k : ByteArray} : ∀ {l}, Srt l → Srt (del k l)
  | [], h => by simpa [del] using h
  | x :: l, hs => by
    obtain ⟨hx, hl⟩ := srt_cons.1 hs
    rw [del]
    split
    · exact srt_cons.2 ⟨fun y hy => hx y (mem_del hy), srt_del hl⟩
    · split
      · exact hs
      · exact hl

/-! ### What keys have behind it -/
theorem isAt_ins (k : ByteArray) (n : Int) : ∀ l, isAt k (ins k n l) = true
  | [] => by simp [ins, isAt, less_irrefl]
  | x :: l => by
    rw [ins]
    cases h : less x.1 k with
    | true => simp [isAt, h, isAt_ins k n l]
    | false => cases h2 : less k x.1 <;> simp [isAt, less_irrefl]
theorem num_ins (k : ByteArray) (n : Int) : ∀ l, num k (ins k n l) = n
  | [] => by simp [ins, num, less_irrefl]
  | x :: l => by
    rw [ins]
    cases h : less x.1 k with
    | true => simp [num, h, num_ins k n l]
    | false => cases h2 : less k x.1 <;> simp [num, less_irrefl]
theorem isAt_front {k : ByteArray} {l : List Row} (h : ∀ y ∈ l, less k y.1 = true) : isAt k l = false ∧ num k l = 0 := by
  cases l with
  | nil => exact ⟨rfl, rfl⟩
  | cons y l =>
    have hy := h y (by simp)
    simp [isAt, num, hy, less_asymm hy]
theorem isAt_del (k : ByteArray) : ∀ l, Srt l → isAt k (del k l) = false
  | [], _ => rfl
  | x :: l, hs => by
    obtain ⟨hx, hl⟩ := srt_cons.1 hs
    rw [del]
    rcases less_cases x.1 k with h | h | h
    · simp [isAt, h, isAt_del k l hl]
    · rw [h]
      simp only [less_irrefl]
      exact (isAt_front fun y hy => by have := hx y hy; rwa [h] at this).1
    · simp [isAt, h, less_asymm h]

theorem other_ins {k o : ByteArray} (n : Int) (hko : o ≠ k) : ∀ l, Srt l → isAt o (ins k n l) = isAt o l ∧ num o (ins k n l) = num o l
  | [], _ => by
    rcases less_cases k o with h | h | h
    · simp [ins, isAt, num, h]
    · exact absurd h.symm hko
    · simp [ins, isAt, num, h, less_asymm h]
  | x :: l, hs => by
    obtain ⟨hx, hl⟩ := srt_cons.1 hs
    have ih := other_ins n hko l hl
    rcases less_cases x.1 k with h | h | h
    · simp only [ins, h, if_true, isAt, num]
      rw [ih.1, ih.2]; exact ⟨rfl, rfl⟩
    · rcases less_cases k o with g | g | g
      · simp [ins, isAt, num, h, less_irrefl, g]
      · exact absurd g.symm hko
      · simp [ins, isAt, num, h, less_irrefl, g, less_asymm g]
    · rcases less_cases k o with g | g | g
      · simp [ins, isAt, num, h, less_asymm h, g]
      · exact absurd g.symm hko
      · have := less_trans g h
        simp [ins, isAt, num, h, less_asymm h, g, less_asymm g, this, less_asymm this]

theorem other_del {k o : ByteArray} (hko : o ≠ k) : ∀ l, Srt l → isAt o (del k l) = isAt o l ∧ num o (del k l) = num o l
  | [], _ => ⟨rfl, rfl⟩
  | x :: l, hs => by
    obtain ⟨hx, hl⟩ := srt_cons.1 hs
    have ih := other_del hko l hl
    rcases less_cases x.1 k with h | h | h
    · simp only [del, h, if_true, isAt, num]
      rw [ih.1, ih.2]; exact ⟨rfl, rfl⟩
    · rcases less_cases k o with g | g | g
      · simp [del, isAt, num, h, less_irrefl, g]
      · exact absurd g.symm hko
      · have hf := isAt_front (k := o) (l := l) fun y hy => by have := hx y hy; rw [h] at this; exact less_trans g this
        simp [del, isAt, num, h, less_irrefl, g, less_asymm g, hf]
    · simp [del, h, less_asymm h]

/-! ### Keys -/
/-- A letter from a to z. -/
def okc (c : UInt8) : Bool := decide (97 ≤ (c.toNat : Int)) && decide ((c.toNat : Int) ≤ 122)
/-- A key: one to six such letters. -/
def keyB (s : ByteArray) : Bool := decide (1 ≤ s.size) && decide (s.size ≤ 6) && s.data.toList.all okc

/-! ### Right rows -/
/-- What is wrong with row i: 0 is nothing. -/
def wrongAt (l : List Row) (i : Nat) : Int :=
  if keyB (l.getD i default).1 = false then 7
  else if 0 < i ∧ less (l.getD (i - 1) default).1 (l.getD i default).1 = false then 2
  else if (l.getD i default).2 < -1073741824 ∨ 1073741824 < (l.getD i default).2 then 3 else 0
/-- What is wrong with the first k rows. -/
def wrongTo (l : List Row) : Nat → Int
  | 0 => 0
  | k + 1 => if wrongTo l k = 0 then wrongAt l k else wrongTo l k
/-- What is wrong with rows. -/
def wrong (l : List Row) : Int := wrongTo l l.length

theorem wrongTo_stays {l : List Row} {k : Nat} (h : wrongTo l k ≠ 0) : ∀ d, wrongTo l (k + d) = wrongTo l k
  | 0 => rfl
  | d + 1 => by
    have := wrongTo_stays h d
    show wrongTo l (k + d + 1) = _
    rw [wrongTo, this, if_neg h]
theorem wrong_at {l : List Row} {k : Nat} (hk : k < l.length) (h0 : wrongTo l k = 0) (h : wrongAt l k ≠ 0) : wrong l = wrongAt l k := by
  have e : wrongTo l (k + 1) = wrongAt l k := by rw [wrongTo, if_pos h0]
  have := wrongTo_stays (l := l) (k := k + 1) (by rw [e]; exact h) (l.length - (k + 1))
  rw [show k + 1 + (l.length - (k + 1)) = l.length from by omega, e] at this
  exact this
theorem wrongTo_step {l : List Row} {k : Nat} (h0 : wrongTo l k = 0) (h : wrongAt l k = 0) : wrongTo l (k + 1) = 0 := by
  rw [wrongTo, if_pos h0, h]
theorem wrongTo_all {l : List Row} {k : Nat} (h : wrongTo l k = 0) : ∀ i, i < k → wrongAt l i = 0 := by
  induction k with
  | zero => intro i hi; omega
  | succ k ih =>
    rw [wrongTo] at h
    by_cases h0 : wrongTo l k = 0
    · rw [if_pos h0] at h
      intro i hi
      by_cases e : i = k
      · rw [e]; exact h
      · exact ih h0 i (by omega)
    · rw [if_neg h0] at h; exact absurd h h0
theorem wrongTo_of {l : List Row} : ∀ {k : Nat}, (∀ i, i < k → wrongAt l i = 0) → wrongTo l k = 0
  | 0, _ => rfl
  | k + 1, h => wrongTo_step (wrongTo_of fun i hi => h i (by omega)) (h k (by omega))

theorem wrong_7 {l : List Row} {k : Nat} (hk : k < l.length) (h0 : wrongTo l k = 0) (h : keyB (l.getD k default).1 = false) : wrong l = 7 := by
  have e : wrongAt l k = 7 := by unfold wrongAt; rw [if_pos h]
  rw [wrong_at hk h0 (by rw [e]; decide), e]
theorem wrong_2 {l : List Row} {k : Nat} (hk : k < l.length) (h0 : wrongTo l k = 0) (h : keyB (l.getD k default).1 = true) (hp : 0 < k) (h2 : less (l.getD (k - 1) default).1 (l.getD k default).1 = false) : wrong l = 2 := by
  have e : wrongAt l k = 2 := by unfold wrongAt; rw [if_neg (by rw [h]; decide), if_pos ⟨hp, h2⟩]
  rw [wrong_at hk h0 (by rw [e]; decide), e]
theorem wrong_3 {l : List Row} {k : Nat} (hk : k < l.length) (h0 : wrongTo l k = 0) (h : keyB (l.getD k default).1 = true) (hp : 0 < k → less (l.getD (k - 1) default).1 (l.getD k default).1 = true)
    (h3 : (l.getD k default).2 < -1073741824 ∨ 1073741824 < (l.getD k default).2) : wrong l = 3 := by
  have e : wrongAt l k = 3 := by unfold wrongAt; rw [if_neg (by rw [h]; decide), if_neg (fun ⟨a, b⟩ => by rw [hp a] at b; cases b), if_pos h3]
  rw [wrong_at hk h0 (by rw [e]; decide), e]
theorem wrong_0 {l : List Row} {k : Nat} (h0 : wrongTo l k = 0) (h : keyB (l.getD k default).1 = true) (hp : 0 < k → less (l.getD (k - 1) default).1 (l.getD k default).1 = true)
    (h3 : -1073741824 ≤ (l.getD k default).2) (h4 : (l.getD k default).2 ≤ 1073741824) : wrongTo l (k + 1) = 0 := by
  refine wrongTo_step h0 ?_
  unfold wrongAt; rw [if_neg (by rw [h]; decide), if_neg (fun ⟨a, b⟩ => by rw [hp a] at b; cases b), if_neg (by omega)]

/-- Right: keys, in order, within range. -/
structure Right (l : List Row) : Prop where
  srt : Srt l
  key : ∀ x ∈ l, keyB x.1 = true
  lo : ∀ x ∈ l, -1073741824 ≤ x.2
  hi : ∀ x ∈ l, x.2 ≤ 1073741824

theorem wrongAt_zero {l : List Row} {i : Nat} : wrongAt l i = 0 ↔ keyB (l.getD i default).1 = true ∧ (0 < i → less (l.getD (i - 1) default).1 (l.getD i default).1 = true) ∧ -1073741824 ≤ (l.getD i default).2 ∧ (l.getD i default).2 ≤ 1073741824 := by
  unfold wrongAt
  generalize (l.getD i default).2 = m
  cases keyB (l.getD i default).1 with
  | false => simp
  | true =>
    cases less (l.getD (i - 1) default).1 (l.getD i default).1 with
    | true => simp; try omega
    | false =>
      by_cases h : 0 < i
      · simp [h]
      · simp [h]; try omega

theorem getD_of_mem {l : List Row} {x : Row} (h : x ∈ l) : ∃ i, i < l.length ∧ l.getD i default = x := by
  obtain ⟨i, hi, e⟩ := List.getElem_of_mem h
  exact ⟨i, hi, by simp [List.getD, hi, e]⟩
theorem mem_getD {l : List Row} {i : Nat} (h : i < l.length) : l.getD i default ∈ l := by
  simp [List.getD, h]

theorem right_of {l : List Row} (h : wrong l = 0) : Right l := by
  have ha : ∀ i, i < l.length → _ := fun i hi => wrongAt_zero.1 (wrongTo_all h i hi)
  have hp : ∀ d i, i + d + 1 < l.length → less (l.getD i default).1 (l.getD (i + d + 1) default).1 = true := by
    intro d
    induction d with
    | zero =>
      intro i hi
      have := (ha (i + 1) (by omega)).2.1 (by omega)
      simpa using this
    | succ d ih =>
      intro i hi
      have h1 := ih i (by omega)
      have h2 := (ha (i + (d + 1) + 1) (by omega)).2.1 (by omega)
      rw [show i + (d + 1) + 1 - 1 = i + d + 1 from by omega] at h2
      exact less_trans h1 h2
  refine ⟨List.pairwise_iff_getElem.2 fun i j hi hj hij => ?_, fun x hx => ?_, fun x hx => ?_, fun x hx => ?_⟩
  · have := hp (j - i - 1) i (by omega)
    rw [show i + (j - i - 1) + 1 = j from by omega] at this
    simpa [List.getD, hi, hj] using this
  · obtain ⟨i, hi, rfl⟩ := getD_of_mem hx; exact (ha i hi).1
  · obtain ⟨i, hi, rfl⟩ := getD_of_mem hx; exact (ha i hi).2.2.1
  · obtain ⟨i, hi, rfl⟩ := getD_of_mem hx; exact (ha i hi).2.2.2

theorem srt_getD {l : List Row} (h : Srt l) {i j : Nat} (hij : i < j) (hj : j < l.length) : less (l.getD i default).1 (l.getD j default).1 = true := by
  have := List.pairwise_iff_getElem.1 h i j (by omega) hj hij
  simpa [List.getD, hj, show i < l.length by omega] using this

theorem right_wrong {l : List Row} (h : Right l) : wrong l = 0 := by
  refine wrongTo_of fun i hi => wrongAt_zero.2 ⟨h.key _ (mem_getD hi), fun h0 => srt_getD h.srt (by omega) hi, h.lo _ (mem_getD hi), h.hi _ (mem_getD hi)⟩

theorem right_ins {k : ByteArray} {n : Int} {l : List Row} (h : Right l) (hk : keyB k = true) (h1 : -1073741824 ≤ n) (h2 : n ≤ 1073741824) : Right (ins k n l) := by
  refine ⟨srt_ins h.srt, fun x hx => ?_, fun x hx => ?_, fun x hx => ?_⟩
  · rcases mem_ins hx with rfl | hx
    · exact hk
    · exact h.key x hx
  · rcases mem_ins hx with rfl | hx
    · exact h1
    · exact h.lo x hx
  · rcases mem_ins hx with rfl | hx
    · exact h2
    · exact h.hi x hx
theorem right_del {k : ByteArray} {l : List Row} (h : Right l) : Right (del k l) :=
  ⟨srt_del h.srt, fun x hx => h.key x (mem_del hx), fun x hx => h.lo x (mem_del hx), fun x hx => h.hi x (mem_del hx)⟩

/-! ### The place that a search finds -/
theorem pos_is {k : ByteArray} : ∀ {l : List Row} {m : Nat}, m ≤ l.length → (∀ t, t < m → less (l.getD t default).1 k = true) → (m < l.length → less (l.getD m default).1 k = false) → m = pos k l
  | [], m, hm, _, _ => by simp [pos] at *; exact hm
  | x :: l, 0, _, _, h2 => by
    have := h2 (by simp)
    simp at this
    simp [pos, this]
  | x :: l, m + 1, hm, h1, h2 => by
    have h0 := h1 0 (by omega)
    simp at h0
    rw [pos, if_pos h0, ← pos_is (k := k) (l := l) (m := m) (by simpa using hm) (fun t ht => by simpa using h1 (t + 1) (by omega)) (fun h => by simpa using h2 (by simpa using h))]

theorem isAt_pos (k : ByteArray) : ∀ l : List Row, isAt k l = (decide (pos k l < l.length) && ((l.getD (pos k l) default).1.toList == k.toList))
  | [] => by simp [isAt, pos]
  | x :: l => by
    rw [isAt, pos]
    cases h : less x.1 k with
    | true => simp [isAt_pos k l]
    | false =>
      cases h2 : less k x.1 with
      | true =>
        have : ¬ x.1.toList = k.toList := fun e => less_ne h2 (toList_inj e).symm
        simp [this]
      | false =>
        have : x.1 = k := less_tri h h2
        simp [this]
theorem num_pos (k : ByteArray) : ∀ l : List Row, isAt k l = true → num k l = (l.getD (pos k l) default).2
  | [], h => by simp [isAt] at h
  | x :: l, h => by
    rw [isAt] at h
    rw [num, pos]
    cases h1 : less x.1 k with
    | true => simp [h1] at h; simp [num_pos k l h]
    | false =>
      simp [h1] at h
      simp [h]
theorem num_not (k : ByteArray) : ∀ l : List Row, isAt k l = false → num k l = 0
  | [], _ => rfl
  | x :: l, h => by
    rw [isAt] at h
    rw [num]
    cases h1 : less x.1 k with
    | true => simp [h1] at h; simp [num_not k l h]
    | false =>
      simp [h1] at h
      simp [h]
end Go.Proofs.YtdnafpenljdinadDoor
