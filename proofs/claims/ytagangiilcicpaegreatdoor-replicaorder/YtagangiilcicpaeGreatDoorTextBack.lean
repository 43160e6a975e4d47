/-
  Plain mathematics of numbers as texts: a number's own text is read as that number.
  Plain mathematics of deeds as texts: a text cut at blanks, or at semicolons with a blank, and put together again; a right deed's text, read, is that deed; a text that is read is its deed's.
  A text that is read is its deed's; a right deed's text is read as that deed, and is no longer than may be.
  A right deed's text is read as that deed, and is no longer than may be.
-/
import Derived.Lib.AtoiAllCases
import Derived.Lib.ItoaMem
import Derived.Test.YtagangiilcicpaeGreatDoorDeedMath
namespace Go.Proofs.YtagangiilcicpaeGreatDoor
open Go.Lib

theorem parse_append : ∀ (l m : List UInt8) (acc : Nat), parseUint10 acc (l ++ m) = match parseUint10 acc l with
    | .ok v => parseUint10 v m
    | .syntax => .syntax
    | .range => .range
  | [], m, acc => by simp [parseUint10]
  | c :: l, m, acc => by
    simp only [List.cons_append, parseUint10]
    split
    · split
      · rfl
      · split
        · rfl
        · exact parse_append l m _
    · rfl
theorem digit_toNat {d : Nat} (h : d < 10) : (UInt8.ofNat (48 + d)).toNat = 48 + d := by
  rw [UInt8.toNat_ofNat']; omega
theorem parse_digit {acc d : Nat} (h : d < 10) (hb : acc * 10 + d < 18446744073709551616) : parseUint10 acc [UInt8.ofNat (48 + d)] = .ok (acc * 10 + d) := by
  simp only [parseUint10]
  rw [digit_toNat h, if_pos (by omega), if_neg (by omega), if_neg (by omega)]
  congr 1; omega
theorem parse_digits : ∀ (u : Nat), u < 18446744073709551616 → parseUint10 0 (decDigits u) = .ok u := by
  intro u
  induction u using Nat.strongRecOn with
  | _ u ih =>
    intro hu
    by_cases h : u < 10
    · rw [decDigits, dif_pos h, parse_digit h (by omega)]; simp
    · rw [decDigits, dif_neg h, parse_append, ih (u / 10) (by omega) (by omega)]
      show parseUint10 (u / 10) _ = _
      rw [parse_digit (by omega) (by omega)]
      congr 1; omega
/-- All signs are digits, and there is one. -/
theorem digits_all : ∀ (u : Nat), ∀ c ∈ decDigits u, 48 ≤ c.toNat ∧ c.toNat ≤ 57 := by
  intro u
  induction u using Nat.strongRecOn with
  | _ u ih =>
    intro c hc
    by_cases h : u < 10
    · rw [decDigits, dif_pos h] at hc
      simp only [List.mem_singleton] at hc
      rw [hc, digit_toNat h]; omega
    · rw [decDigits, dif_neg h] at hc
      rcases List.mem_append.1 hc with hc | hc
      · exact ih (u / 10) (by omega) c hc
      · simp only [List.mem_singleton] at hc
        rw [hc, digit_toNat (by omega)]; omega
theorem digits_ne (u : Nat) : decDigits u ≠ [] := by
  rw [decDigits]; split <;> simp
theorem atoi_itoa (n : Int) (h0 : -9223372036854775808 ≤ n) (h1 : n ≤ 9223372036854775807) : atoiAll (itoa n) = .ok n := by
  by_cases hn : n < 0
  · obtain ⟨u, rfl⟩ : ∃ u : Nat, n = -(u : Int) := ⟨n.natAbs, by omega⟩
    rw [itoa_neg u (by omega), atoiAll_minus]
    unfold parseMag
    rw [if_neg (digits_ne u), parse_digits u (by omega)]
    simp only [signed]
    rw [if_neg (by omega)]
  · obtain ⟨u, rfl⟩ : ∃ u : Nat, n = (u : Int) := ⟨n.toNat, by omega⟩
    rw [itoa_nonneg u]
    cases hd : decDigits u with
    | nil => exact absurd hd (digits_ne u)
    | cons c r =>
      have hc := digits_all u c (by rw [hd]; simp)
      rw [atoiAll_plain c r (by omega) (by omega), ← hd]
      unfold parseMag
      rw [if_neg (digits_ne u), parse_digits u (by omega)]
      simp only [signless]
      rw [if_neg (by omega)]
/-- The number that a text is, if the text is that number's own. -/
def numOf (s : List UInt8) : Option Int := match atoiAll s with
  | .ok n => if itoa n = s then some n else none
  | _ => none
theorem numOf_itoa (n : Int) (h0 : -9223372036854775808 ≤ n) (h1 : n ≤ 9223372036854775807) : numOf (itoa n) = some n := by
  unfold numOf; rw [atoi_itoa n h0 h1]; simp
/-- No blank, and no semicolon. -/
def plainC (c : UInt8) : Bool := c != 32 && c != 59
theorem itoa_plain (n : Int) : ∀ c ∈ itoa n, plainC c = true := by
  intro c hc
  have key : ∀ c : UInt8, 45 ≤ c.toNat ∧ c.toNat ≤ 57 → plainC c = true := fun c h => by
    have h1 : c ≠ 32 := fun e => by rw [e] at h; revert h; decide
    have h2 : c ≠ 59 := fun e => by rw [e] at h; revert h; decide
    simp [plainC, h1, h2]
  unfold itoa at hc
  split at hc
  · rcases List.mem_cons.1 hc with rfl | hc
    · decide
    · have := digits_all _ c hc; exact key c (by omega)
  · have := digits_all _ c hc; exact key c (by omega)
end Go.Proofs.YtagangiilcicpaeGreatDoor

namespace Go.Proofs.YtagangiilcicpaeGreatDoor
open Go.Lib

abbrev T := List UInt8

/-! ### Cut, and put together -/
def spl1 (cur : T) : T → List T
  | [] => [cur]
  | c :: s => if c = 32 then cur :: spl1 [] s else spl1 (cur ++ [c]) s
def spl2 (cur : T) : T → List T
  | [] => [cur]
  | [c] => [cur ++ [c]]
  | c :: d :: s => if c = 59 ∧ d = 32 then cur :: spl2 [] s else spl2 (cur ++ [c]) (d :: s)
def join1 : List T → T
  | [] => []
  | [x] => x
  | x :: y :: l => x ++ 32 :: join1 (y :: l)
def join2 : List T → T
  | [] => []
  | [x] => x
  | x :: y :: l => x ++ 59 :: 32 :: join2 (y :: l)

theorem spl1_ne (cur s : T) : spl1 cur s ≠ [] := by
  induction s generalizing cur with
  | nil => simp [spl1]
  | cons c s ih => rw [spl1]; split <;> simp [ih]
theorem join1_cons (x : T) {l : List T} (h : l ≠ []) : join1 (x :: l) = x ++ 32 :: join1 l := by
  cases l with
  | nil => exact absurd rfl h
  | cons y l => rfl
theorem spl1_word (w cur s : T) (h : ∀ c ∈ w, c ≠ 32) : spl1 cur (w ++ s) = spl1 (cur ++ w) s := by
  induction w generalizing cur with
  | nil => simp
  | cons c w ih =>
    rw [List.cons_append, spl1, if_neg (h c (by simp)), ih _ (fun d hd => h d (by simp [hd]))]; simp
theorem spl1_join1 : ∀ (l : List T), l ≠ [] → (∀ x ∈ l, ∀ c ∈ x, c ≠ 32) → spl1 [] (join1 l) = l
  | [], h, _ => absurd rfl h
  | [x], _, hx => by
    have := spl1_word x [] [] (hx x (by simp))
    simpa [join1, spl1] using this
  | x :: y :: l, _, hx => by
    rw [join1_cons x (by simp), spl1_word x [] _ (hx x (by simp))]
    rw [spl1, if_pos rfl, spl1_join1 (y :: l) (by simp) (fun z hz => hx z (by simp [hz]))]
    simp

theorem join2_cons (x : T) {l : List T} (h : l ≠ []) : join2 (x :: l) = x ++ 59 :: 32 :: join2 l := by
  cases l with
  | nil => exact absurd rfl h
  | cons y l => rfl
theorem spl2_step (c : UInt8) (s cur : T) (h : c ≠ 59) : spl2 cur (c :: s) = spl2 (cur ++ [c]) s := by
  cases s with
  | nil => simp [spl2]
  | cons d s => rw [spl2, if_neg (fun e => h e.1)]
theorem spl2_word (w cur s : T) (h : ∀ c ∈ w, c ≠ 59) : spl2 cur (w ++ s) = spl2 (cur ++ w) s := by
  induction w generalizing cur with
  | nil => simp
  | cons c w ih =>
    rw [List.cons_append, spl2_step c _ _ (h c (by simp)), ih _ (fun d hd => h d (by simp [hd]))]; simp
theorem spl2_join2 : ∀ (l : List T), l ≠ [] → (∀ x ∈ l, ∀ c ∈ x, c ≠ 59) → spl2 [] (join2 l) = l
  | [], h, _ => absurd rfl h
  | [x], _, hx => by
    have := spl2_word x [] [] (hx x (by simp))
    simpa [join2, spl2] using this
  | x :: y :: l, _, hx => by
    rw [join2_cons x (by simp), spl2_word x [] _ (hx x (by simp))]
    rw [spl2, if_pos ⟨rfl, rfl⟩, spl2_join2 (y :: l) (by simp) (fun z hz => hx z (by simp [hz]))]
    simp
theorem join1_mem {c : UInt8} : ∀ {l : List T}, c ∈ join1 l → c = 32 ∨ ∃ x ∈ l, c ∈ x
  | [], h => by simp [join1] at h
  | [x], h => .inr ⟨x, by simp, by simpa [join1] using h⟩
  | x :: y :: l, h => by
    rw [join1_cons x (by simp)] at h
    rcases List.mem_append.1 h with h | h
    · exact .inr ⟨x, by simp, h⟩
    · rcases List.mem_cons.1 h with h | h
      · exact .inl h
      · rcases join1_mem h with h | ⟨z, hz, h⟩
        · exact .inl h
        · exact .inr ⟨z, by simp [hz], h⟩

/-! ### A deed's words -/
def keyT (k : ByteArray) : T := k.data.toList
def ofT (t : T) : ByteArray := ⟨t.toArray⟩
theorem ofT_keyT (k : ByteArray) : ofT (keyT k) = k := by cases k; simp [ofT, keyT]
theorem keyT_ofT (t : T) : keyT (ofT t) = t := by simp [ofT, keyT]
def wReads : T := [114, 101, 97, 100, 115]
def wWrites : T := [119, 114, 105, 116, 101, 115]
/-- The words of instructions: load, const, add, sub, mul, store, drop, skip, fail. -/
def word (k : Nat) : T := match k with
  | 1 => [108, 111, 97, 100]
  | 2 => [99, 111, 110, 115, 116]
  | 3 => [97, 100, 100]
  | 4 => [115, 117, 98]
  | 5 => [109, 117, 108]
  | 6 => [115, 116, 111, 114, 101]
  | 7 => [100, 114, 111, 112]
  | 8 => [115, 107, 105, 112]
  | 9 => [102, 97, 105, 108]
  | _ => []
def reg (n : Int) : T := 114 :: itoa n
def insWords (i : Ins) : List T :=
  if i.kind = 1 then [word 1, reg i.a, keyT i.key]
  else if i.kind = 2 then [word 2, reg i.a, itoa i.n]
  else if i.kind = 3 then [word 3, reg i.a, reg i.b]
  else if i.kind = 4 then [word 4, reg i.a, reg i.b]
  else if i.kind = 5 then [word 5, reg i.a, reg i.b]
  else if i.kind = 6 then [word 6, reg i.a, keyT i.key]
  else if i.kind = 7 then [word 7, keyT i.key]
  else if i.kind = 8 then [word 8, reg i.a, itoa i.n]
  else [word 9, reg i.a]
def partsOf (R W : List ByteArray) (C : List Ins) : List (List T) := (wReads :: R.map keyT) :: (wWrites :: W.map keyT) :: C.map insWords
def printT (R W : List ByteArray) (C : List Ins) : T := join2 ((partsOf R W C).map join1)

/-! ### Read -/
/-- The kind that a word is; 0: none. -/
def kindOf (w : T) : Nat :=
  if w = word 1 then 1 else if w = word 2 then 2 else if w = word 3 then 3 else if w = word 4 then 4 else if w = word 5 then 5 else if w = word 6 then 6 else if w = word 7 then 7 else if w = word 8 then 8 else if w = word 9 then 9 else 0
def regOf : T → Option Int
  | [] => none
  | c :: r => if c = 114 then numOf r else none
/-- One instruction's words, read. -/
def readIns (l : List T) : Int × Ins :=
  let k := kindOf (l.headD [])
  if k = 0 then (1, default)
  else if k = 1 ∨ k = 6 then match l with
    | [_, x, y] => (match regOf x with | some a => (0, ((k : Int), a, 0, 0, ofT y)) | none => (2, default))
    | _ => (2, default)
  else if k = 2 ∨ k = 8 then match l with
    | [_, x, y] => (match regOf x with | some a => (match numOf y with | some n => (0, ((k : Int), a, 0, n, ⟨#[]⟩)) | none => (2, default)) | none => (2, default))
    | _ => (2, default)
  else if k = 7 then match l with
    | [_, y] => (0, (7, 0, 0, 0, ofT y))
    | _ => (2, default)
  else if k = 9 then match l with
    | [_, x] => (match regOf x with | some a => (0, (9, a, 0, 0, ⟨#[]⟩)) | none => (2, default))
    | _ => (2, default)
  else match l with
    | [_, x, y] => (match regOf x with | some a => (match regOf y with | some b => (0, ((k : Int), a, b, 0, ⟨#[]⟩)) | none => (2, default)) | none => (2, default))
    | _ => (2, default)
def readCode : List T → Int × List Ins
  | [] => (0, [])
  | p :: ps => match readIns (spl1 [] p) with
    | (0, i) => (match readCode ps with
      | (0, C) => (0, i :: C)
      | (e, _) => (e, []))
    | (e, _) => (e, [])
/-- A text, read: an error, or 0 and a deed. -/
def readT (s : T) : Int × List ByteArray × List ByteArray × List Ins :=
  if 400 < s.length then (4, [], [], [])
  else match spl2 [] s with
    | p0 :: p1 :: ps =>
      if (spl1 [] p0).headD [] ≠ wReads then (2, [], [], [])
      else if (spl1 [] p1).headD [] ≠ wWrites then (2, [], [], [])
      else match readCode ps with
        | (0, C) =>
          let R := ((spl1 [] p0).drop 1).map ofT
          let W := ((spl1 [] p1).drop 1).map ofT
          if wDeed R W C = 0 then (0, R, W, C) else (wDeed R W C, [], [], [])
        | (e, _) => (e, [], [], [])
    | _ => (8, [], [], [])
end Go.Proofs.YtagangiilcicpaeGreatDoor

namespace Go.Proofs.YtagangiilcicpaeGreatDoor
open Go.Lib

theorem kindOf_cases (w : T) : kindOf w = 0 ∨ (1 ≤ kindOf w ∧ kindOf w ≤ 9 ∧ w = word (kindOf w)) := by
  unfold kindOf
  split
  · rename_i h; exact .inr ⟨by decide, by decide, h⟩
  split
  · rename_i h; exact .inr ⟨by decide, by decide, h⟩
  split
  · rename_i h; exact .inr ⟨by decide, by decide, h⟩
  split
  · rename_i h; exact .inr ⟨by decide, by decide, h⟩
  split
  · rename_i h; exact .inr ⟨by decide, by decide, h⟩
  split
  · rename_i h; exact .inr ⟨by decide, by decide, h⟩
  split
  · rename_i h; exact .inr ⟨by decide, by decide, h⟩
  split
  · rename_i h; exact .inr ⟨by decide, by decide, h⟩
  split
  · rename_i h; exact .inr ⟨by decide, by decide, h⟩
  · exact .inl rfl
theorem kindOf_word (k : Nat) (h1 : 1 ≤ k) (h9 : k ≤ 9) : kindOf (word k) = k := by
  have : k = 1 ∨ k = 2 ∨ k = 3 ∨ k = 4 ∨ k = 5 ∨ k = 6 ∨ k = 7 ∨ k = 8 ∨ k = 9 := by omega
  rcases this with rfl | rfl | rfl | rfl | rfl | rfl | rfl | rfl | rfl <;> decide
theorem regOf_reg {a : Int} (h0 : -9223372036854775808 ≤ a) (h1 : a ≤ 9223372036854775807) : regOf (reg a) = some a := by
  show (if (114 : UInt8) = 114 then numOf (itoa a) else none) = some a
  rw [if_pos rfl, numOf_itoa a h0 h1]

/-! ### A right deed's text, read -/
/-- What else stands in a right instruction. -/
structure Norm (i : Ins) : Prop where
  a : i.kind = 7 → i.a = 0
  b : i.kind ≠ 3 → i.kind ≠ 4 → i.kind ≠ 5 → i.b = 0
  n : i.kind ≠ 2 → i.kind ≠ 8 → i.n = 0
  key : i.kind ≠ 1 → i.kind ≠ 6 → i.kind ≠ 7 → i.key = ⟨#[]⟩
  lo : -1073741824 ≤ i.n
  hi : i.n ≤ 1073741824
theorem right_norm {R W : List ByteArray} {i : Ins} {behind : Int} (hb : behind ≤ 12) (h : wIns R W i behind = 0) : Norm i := by
  unfold wIns at h
  split at h
  · cases h
  split at h
  · cases h
  rename_i h1 h2
  have hr : regsFit i = true := by
    cases e : regsFit i with
    | true => rfl
    | false => exact absurd (.inl e) h2
  have hn : numFit i behind = true := by
    cases e : numFit i behind with
    | true => rfl
    | false => exact absurd (.inr e) h2
  simp only [regsFit, Bool.and_eq_true] at hr
  refine ⟨fun e => ?_, fun e3 e4 e5 => ?_, fun e2 e8 => ?_, fun e1 e6 e7 => ?_, ?_, ?_⟩
  · have := hr.1
    simpa [regFit, e] using this
  · have := hr.2
    simpa [regFit, hasB, e3, e4, e5] using this
  · simpa [numFit, e2, e8] using hn
  · rw [if_neg e1, if_neg (by intro e; rcases e with e | e; exact e6 e; exact e7 e)] at h
    split at h
    · rename_i hs
      cases hk : i.key with
      | mk d =>
        rw [hk] at hs
        simp [ByteArray.size] at hs
        rw [hs]
    · cases h
  · unfold numFit at hn
    split at hn
    · simp at hn; exact hn.1
    split at hn
    · simp at hn; omega
    · simp at hn; omega
  · unfold numFit at hn
    split at hn
    · simp at hn; exact hn.2
    split at hn
    · simp at hn; omega
    · simp at hn; omega
theorem read_words {R W : List ByteArray} {i : Ins} {behind : Int} (hb : behind ≤ 12) (h : wIns R W i behind = 0) : readIns (insWords i) = (0, i) := by
  have hN := right_norm hb h
  have hI := right_instr h
  obtain ⟨kd, a, b, n, key⟩ := i
  obtain ⟨na, nb, nn, nk, lo, hi⟩ := hN
  have a0 := hI.a0
  have a4 := hI.a4
  have b0 := hI.b0
  have b4 := hI.b4
  have k1 := hI.lo
  have k9 := hI.hi
  simp only [Ins.kind, Ins.a, Ins.b, Ins.n, Ins.key] at *
  have ra := regOf_reg (a := a) (by omega) (by omega)
  have rb := regOf_reg (a := b) (by omega) (by omega)
  have rn := numOf_itoa n (by omega) (by omega)
  have : kd = 1 ∨ kd = 2 ∨ kd = 3 ∨ kd = 4 ∨ kd = 5 ∨ kd = 6 ∨ kd = 7 ∨ kd = 8 ∨ kd = 9 := by omega
  rcases this with rfl | rfl | rfl | rfl | rfl | rfl | rfl | rfl | rfl
  · rw [nb (by decide) (by decide) (by decide), nn (by decide) (by decide)]
    simp [insWords, readIns, Ins.kind, Ins.a, Ins.key, kindOf_word 1, ra, ofT_keyT]
  · rw [nb (by decide) (by decide) (by decide), nk (by decide) (by decide) (by decide)]
    simp [insWords, readIns, Ins.kind, Ins.a, Ins.n, kindOf_word 2, ra, rn]
  · rw [nn (by decide) (by decide), nk (by decide) (by decide) (by decide)]
    simp [insWords, readIns, Ins.kind, Ins.a, Ins.b, kindOf_word 3, ra, rb]
  · rw [nn (by decide) (by decide), nk (by decide) (by decide) (by decide)]
    simp [insWords, readIns, Ins.kind, Ins.a, Ins.b, kindOf_word 4, ra, rb]
  · rw [nn (by decide) (by decide), nk (by decide) (by decide) (by decide)]
    simp [insWords, readIns, Ins.kind, Ins.a, Ins.b, kindOf_word 5, ra, rb]
  · rw [nb (by decide) (by decide) (by decide), nn (by decide) (by decide)]
    simp [insWords, readIns, Ins.kind, Ins.a, Ins.key, kindOf_word 6, ra, ofT_keyT]
  · rw [na rfl, nb (by decide) (by decide) (by decide), nn (by decide) (by decide)]
    simp [insWords, readIns, Ins.kind, Ins.key, kindOf_word 7, ofT_keyT]
  · rw [nb (by decide) (by decide) (by decide), nk (by decide) (by decide) (by decide)]
    simp [insWords, readIns, Ins.kind, Ins.a, Ins.n, kindOf_word 8, ra, rn]
  · rw [nb (by decide) (by decide) (by decide), nn (by decide) (by decide), nk (by decide) (by decide) (by decide)]
    simp [insWords, readIns, Ins.kind, Ins.a, kindOf_word 9, ra]
end Go.Proofs.YtagangiilcicpaeGreatDoor

namespace Go.Proofs.YtagangiilcicpaeGreatDoor
open Go.Lib

theorem plain_ne {c : UInt8} (h : plainC c = true) : c ≠ 32 ∧ c ≠ 59 := by simpa [plainC] using h
theorem key_plain {k : ByteArray} (h : keyB k = true) : ∀ c ∈ keyT k, plainC c = true := by
  intro c hc
  simp only [keyB, Bool.and_eq_true] at h
  have := List.all_eq_true.1 h.2 c hc
  simp only [okc, Bool.and_eq_true, decide_eq_true_eq] at this
  have h1 : c ≠ 32 := fun e => by rw [e] at this; revert this; decide
  have h2 : c ≠ 59 := fun e => by rw [e] at this; revert this; decide
  simp [plainC, h1, h2]
theorem word_plain (k : Nat) : ∀ c ∈ word k, plainC c = true := by
  unfold word
  split <;> decide
theorem reg_plain (n : Int) : ∀ c ∈ reg n, plainC c = true := by
  intro c hc
  rcases List.mem_cons.1 hc with rfl | hc
  · decide
  · exact itoa_plain n c hc
theorem words_plain {R W : List ByteArray} {i : Ins} {behind : Int} (hR : wKeys R = 0) (hW : wKeys W = 0) (h : wIns R W i behind = 0) : ∀ x ∈ insWords i, ∀ c ∈ x, plainC c = true := by
  have hI := right_instr h
  have hk : i.kind = 1 ∨ i.kind = 6 ∨ i.kind = 7 → ∀ c ∈ keyT i.key, plainC c = true := fun e => by
    rcases e with e | e
    · exact key_plain (wKeys_key hR (has_iff.1 (hI.load e)))
    · exact key_plain (wKeys_key hW (has_iff.1 (hI.write e)))
  intro x hx
  unfold insWords at hx
  split at hx
  · rename_i e
    simp only [List.mem_cons, List.not_mem_nil, or_false] at hx
    rcases hx with rfl | rfl | rfl
    · exact word_plain _
    · exact reg_plain _
    · exact hk (.inl e)
  split at hx
  · simp only [List.mem_cons, List.not_mem_nil, or_false] at hx
    rcases hx with rfl | rfl | rfl
    · exact word_plain _
    · exact reg_plain _
    · exact itoa_plain _
  split at hx
  · simp only [List.mem_cons, List.not_mem_nil, or_false] at hx
    rcases hx with rfl | rfl | rfl
    · exact word_plain _
    · exact reg_plain _
    · exact reg_plain _
  split at hx
  · simp only [List.mem_cons, List.not_mem_nil, or_false] at hx
    rcases hx with rfl | rfl | rfl
    · exact word_plain _
    · exact reg_plain _
    · exact reg_plain _
  split at hx
  · simp only [List.mem_cons, List.not_mem_nil, or_false] at hx
    rcases hx with rfl | rfl | rfl
    · exact word_plain _
    · exact reg_plain _
    · exact reg_plain _
  split at hx
  · rename_i e
    simp only [List.mem_cons, List.not_mem_nil, or_false] at hx
    rcases hx with rfl | rfl | rfl
    · exact word_plain _
    · exact reg_plain _
    · exact hk (.inr (.inl e))
  split at hx
  · rename_i e
    simp only [List.mem_cons, List.not_mem_nil, or_false] at hx
    rcases hx with rfl | rfl
    · exact word_plain _
    · exact hk (.inr (.inr e))
  split at hx
  · simp only [List.mem_cons, List.not_mem_nil, or_false] at hx
    rcases hx with rfl | rfl | rfl
    · exact word_plain _
    · exact reg_plain _
    · exact itoa_plain _
  · simp only [List.mem_cons, List.not_mem_nil, or_false] at hx
    rcases hx with rfl | rfl
    · exact word_plain _
    · exact reg_plain _
theorem insWords_ne (i : Ins) : insWords i ≠ [] := by
  unfold insWords
  repeat' split
  all_goals simp
theorem code_print : ∀ (C : List Ins), (∀ i ∈ C, readIns (insWords i) = (0, i) ∧ ∀ x ∈ insWords i, ∀ c ∈ x, plainC c = true) → readCode ((C.map insWords).map join1) = (0, C)
  | [], _ => rfl
  | i :: C, h => by
    obtain ⟨h1, h2⟩ := h i (by simp)
    simp only [List.map_cons, readCode]
    rw [spl1_join1 _ (insWords_ne i) (fun x hx c hc => (plain_ne (h2 x hx c hc)).1), h1]
    simp only
    rw [code_print C (fun j hj => h j (by simp [hj]))]
    rfl

/-! ### How long it is -/
theorem digits_len : ∀ (k u : Nat), u < 10 ^ (k + 1) → (decDigits u).length ≤ k + 1
  | 0, u, h => by rw [decDigits, dif_pos (by simpa using h)]; simp
  | k + 1, u, h => by
    rw [decDigits]
    split
    · simp
    · have := digits_len k (u / 10) (by rw [Nat.pow_succ] at h; omega)
      simp; omega
theorem itoa_len {n : Int} (h0 : -1073741824 ≤ n) (h1 : n ≤ 1073741824) : (itoa n).length ≤ 11 := by
  unfold itoa
  split
  · have := digits_len 9 n.natAbs (by omega)
    simp; omega
  · have := digits_len 9 n.toNat (by omega)
    omega
theorem reg_len {a : Int} (h0 : 0 ≤ a) (h1 : a < 4) : (reg a).length ≤ 2 := by
  have : (itoa a).length ≤ 1 := by
    unfold itoa
    rw [if_neg (by omega)]
    exact digits_len 0 a.toNat (by omega)
  simp [reg]; omega
/-- How long words are together, with one sign more each. -/
def lens (d : Nat) : List T → Nat
  | [] => 0
  | x :: l => x.length + d + lens d l
theorem join1_len : ∀ (l : List T), (join1 l).length ≤ lens 1 l
  | [] => by simp [join1]
  | [x] => by simp [join1, lens]
  | x :: y :: l => by
    have := join1_len (y :: l)
    rw [join1_cons x (by simp), lens]
    simp; omega
theorem join2_len : ∀ (l : List T), (join2 l).length ≤ lens 2 l
  | [] => by simp [join2]
  | [x] => by simp [join2, lens]
  | x :: y :: l => by
    have := join2_len (y :: l)
    rw [join2_cons x (by simp), lens]
    simp; omega
theorem lens_le {d m : Nat} : ∀ (l : List T), (∀ x ∈ l, x.length ≤ m) → lens d l ≤ l.length * (m + d)
  | [], _ => by simp [lens]
  | x :: l, h => by
    have h1 := h x (by simp)
    have h2 := lens_le (d := d) (m := m) l (fun y hy => h y (by simp [hy]))
    rw [lens, List.length_cons, Nat.succ_mul]; omega
theorem key_len {k : ByteArray} (h : keyB k = true) : (keyT k).length ≤ 6 := by
  simp only [keyB, Bool.and_eq_true, decide_eq_true_eq] at h
  have h6 := h.1.2
  have e : k.data.toList.length = k.size := by rw [Array.length_toList]; rfl
  show k.data.toList.length ≤ 6
  rw [e]; exact h6
theorem word_len (k : Nat) : (word k).length ≤ 5 := by
  unfold word
  split <;> decide
theorem ins_len {R W : List ByteArray} {i : Ins} {behind : Int} (hR : wKeys R = 0) (hW : wKeys W = 0) (hb : behind ≤ 12) (h : wIns R W i behind = 0) : (join1 (insWords i)).length ≤ 21 := by
  have hI := right_instr h
  have hN := right_norm hb h
  have hk : i.kind = 1 ∨ i.kind = 6 ∨ i.kind = 7 → (keyT i.key).length ≤ 6 := fun e => by
    rcases e with e | e
    · exact key_len (wKeys_key hR (has_iff.1 (hI.load e)))
    · exact key_len (wKeys_key hW (has_iff.1 (hI.write e)))
  have la := reg_len hI.a0 hI.a4
  have lb := reg_len hI.b0 hI.b4
  have ln := itoa_len hN.lo hN.hi
  have lw := word_len
  refine Nat.le_trans (join1_len _) ?_
  unfold insWords
  split
  · rename_i e
    have := hk (.inl e)
    have := lw 1
    simp only [lens]; omega
  split
  · have := lw 2
    simp only [lens]; omega
  split
  · have := lw 3
    simp only [lens]; omega
  split
  · have := lw 4
    simp only [lens]; omega
  split
  · have := lw 5
    simp only [lens]; omega
  split
  · rename_i e
    have := hk (.inr (.inl e))
    have := lw 6
    simp only [lens]; omega
  split
  · rename_i e
    have := hk (.inr (.inr e))
    have := lw 7
    simp only [lens]; omega
  split
  · have := lw 8
    simp only [lens]; omega
  · have := lw 9
    simp only [lens]; omega
theorem keys_len {R : List ByteArray} (h : wKeys R = 0) {w : T} (hw : w.length ≤ 6) : (join1 (w :: R.map keyT)).length ≤ 42 := by
  refine Nat.le_trans (join1_len _) ?_
  rw [lens]
  have h1 := lens_le (d := 1) (m := 6) (R.map keyT) (fun x hx => by
    obtain ⟨k, hk, rfl⟩ := List.mem_map.1 hx
    exact key_len (wKeys_key h hk))
  have h2 := wKeys_len h
  rw [List.length_map] at h1
  omega
theorem mem_right {R W : List ByteArray} {C : List Ins} (h : RightD R W C) {i : Ins} (hi : i ∈ C) : ∃ behind : Int, behind ≤ 12 ∧ wIns R W i behind = 0 := by
  obtain ⟨j, hj, rfl⟩ := List.getElem_of_mem hi
  have := h.i j hj
  have hc := h.c
  rw [show C.getD j default = C[j] from by simp [List.getD, hj]] at this
  exact ⟨_, by omega, this⟩
theorem print_len {R W : List ByteArray} {C : List Ins} (h : RightD R W C) : (printT R W C).length ≤ 400 := by
  unfold printT partsOf
  refine Nat.le_trans (join2_len _) ?_
  simp only [List.map_cons, lens]
  have h1 := keys_len h.r (w := wReads) (by decide)
  have h2 := keys_len h.w (w := wWrites) (by decide)
  have h3 := lens_le (d := 2) (m := 21) ((C.map insWords).map join1) (fun x hx => by
    rw [List.map_map] at hx
    obtain ⟨i, hi, rfl⟩ := List.mem_map.1 hx
    obtain ⟨b, hb, hw⟩ := mem_right h hi
    exact ins_len h.r h.w hb hw)
  have h4 := h.c
  simp only [List.length_map] at h3
  omega

/-! ### Read again -/
theorem keys_words {R : List ByteArray} (h : wKeys R = 0) {w : T} (hw : ∀ c ∈ w, plainC c = true) : ∀ x ∈ w :: R.map keyT, ∀ c ∈ x, plainC c = true := by
  intro x hx
  rcases List.mem_cons.1 hx with rfl | hx
  · exact hw
  · obtain ⟨k, hk, rfl⟩ := List.mem_map.1 hx
    exact key_plain (wKeys_key h hk)
theorem read_print {R W : List ByteArray} {C : List Ins} (h : wDeed R W C = 0) : readT (printT R W C) = (0, R, W, C) := by
  have hR := right_deed h
  have hp : ∀ x ∈ (partsOf R W C).map join1, ∀ c ∈ x, c ≠ 59 := by
    intro x hx c hc
    obtain ⟨l, hl, rfl⟩ := List.mem_map.1 hx
    rcases join1_mem hc with rfl | ⟨y, hy, hcy⟩
    · decide
    · unfold partsOf at hl
      simp only [List.mem_cons] at hl
      rcases hl with rfl | rfl | hl
      · exact (plain_ne (keys_words hR.r (w := wReads) (by decide) y hy c hcy)).2
      · exact (plain_ne (keys_words hR.w (w := wWrites) (by decide) y hy c hcy)).2
      · obtain ⟨i, hi, rfl⟩ := List.mem_map.1 hl
        obtain ⟨b, hb, hw⟩ := mem_right hR hi
        exact (plain_ne (words_plain hR.r hR.w hw y hy c hcy)).2
  have hlen := print_len hR
  unfold readT
  rw [if_neg (by omega)]
  have hs : spl2 [] (printT R W C) = (partsOf R W C).map join1 := spl2_join2 _ (by simp [partsOf]) hp
  rw [hs]
  unfold partsOf
  simp only [List.map_cons]
  rw [spl1_join1 (wReads :: R.map keyT) (by simp) (fun x hx c hc => (plain_ne (keys_words hR.r (w := wReads) (by decide) x hx c hc)).1)]
  rw [spl1_join1 (wWrites :: W.map keyT) (by simp) (fun x hx c hc => (plain_ne (keys_words hR.w (w := wWrites) (by decide) x hx c hc)).1)]
  rw [code_print C (fun i hi => by
    obtain ⟨b, hb, hw⟩ := mem_right hR hi
    exact ⟨read_words hb hw, words_plain hR.r hR.w hw⟩)]
  have e0 : (ofT ∘ keyT) = id := by funext t; exact ofT_keyT t
  simp [e0, h]
end Go.Proofs.YtagangiilcicpaeGreatDoor
