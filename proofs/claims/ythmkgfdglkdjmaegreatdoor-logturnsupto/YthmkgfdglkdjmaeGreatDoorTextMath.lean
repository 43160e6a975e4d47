/-
  Plain mathematics of numbers as texts: a number's own text is read as that number.
  Plain mathematics of deeds as texts: a text cut at blanks, or at semicolons with a blank, and put together again; a right deed's text, read, is that deed; a text that is read is its deed's.
-/
import Derived.Lib.AtoiAllCases
import Derived.Lib.ItoaMem
import Derived.Test.YthmkgfdglkdjmaeGreatDoorDeedMath
namespace Go.Proofs.YthmkgfdglkdjmaeGreatDoor
open Go.Lib

theorem parse_append : ∀ (l m : List UInt8) (acc : Nat), parseUint10 acc (l ++ m) = match parseUint10 acc l with
    | .ok v => parseUint10 v m
    | .syntax => .syntax
    | .range => .range
  | [], m, acc => by simp [parseUint10]
  | c :: l, m, acc => by
    simp only [List.cons_append, parseUint10]
    split
    · split
      · rfl
      · split
        · rfl
        · exact parse_append l m _
    · rfl
theorem digit_toNat {d : Nat} (h : d < 10) : (UInt8.ofNat (48 + d)).toNat = 48 + d := by
  rw [UInt8.toNat_ofNat']; omega
theorem parse_digit {acc d : Nat} (h : d < 10) (hb : acc * 10 + d < 18446744073709551616) : parseUint10 acc [UInt8.ofNat (48 + d)] = .ok (acc * 10 + d) := by
  simp only [parseUint10]
  rw [digit_toNat h, if_pos (by omega), if_neg (by omega), if_neg (by omega)]
  congr 1; omega
theorem parse_digits : ∀ (u : Nat), u < 18446744073709551616 → parseUint10 0 (decDigits u) = .ok u := by
  intro u
  induction u using Nat.strongRecOn with
  | _ u ih =>
    intro hu
    by_cases h : u < 10
    · rw [decDigits, dif_pos h, parse_digit h (by omega)]; simp
    · rw [decDigits, dif_neg h, parse_append, ih (u / 10) (by omega) (by omega)]
      show parseUint10 (u / 10) _ = _
      rw [parse_digit (by omega) (by omega)]
      congr 1; omega
/-- All signs are digits, and there is one. -/
theorem digits_all : ∀ (u : Nat), ∀ c ∈ decDigits u, 48 ≤ c.toNat ∧ c.toNat ≤ 57 := by
  intro u
  induction u using Nat.strongRecOn with
  | _ u ih =>
    intro c hc
    by_cases h : u < 10
    · rw [decDigits, dif_pos h] at hc
      simp only [List.mem_singleton] at hc
      rw [hc, digit_toNat h]; omega
    · rw [decDigits, dif_neg h] at hc
      rcases List.mem_append.1 hc with hc | hc
      · exact ih (u / 10) (by omega) c hc
      · simp only [List.mem_singleton] at hc
        rw [hc, digit_toNat (by omega)]; omega
theorem digits_ne (u : Nat) : decDigits u ≠ [] := by
  rw [decDigits]; split <;> simp
theorem atoi_itoa (n : Int) (h0 : -9223372036854775808 ≤ n) (h1 : n ≤ 9223372036854775807) : atoiAll (itoa n) = .ok n := by
  by_cases hn : n < 0
  · obtain ⟨u, rfl⟩ : ∃ u : Nat, n = -(u : Int) := ⟨n.natAbs, by omega⟩
    rw [itoa_neg u (by omega), atoiAll_minus]
    unfold parseMag
    rw [if_neg (digits_ne u), parse_digits u (by omega)]
    simp only [signed]
    rw [if_neg (by omega)]
  · obtain ⟨u, rfl⟩ : ∃ u : Nat, n = (u : Int) := ⟨n.toNat, by omega⟩
    rw [itoa_nonneg u]
    cases hd : decDigits u with
    | nil => exact absurd hd (digits_ne u)
    | cons c r =>
      have hc := digits_all u c (by rw [hd]; simp)
      rw [atoiAll_plain c r (by omega) (by omega), ← hd]
      unfold parseMag
      rw [if_neg (digits_ne u), parse_digits u (by omega)]
      simp only [signless]
      rw [if_neg (by omega)]
/-- The number that a text is, if the text is that number's own. -/
def numOf (s : List UInt8) : Option Int := match atoiAll s with
  | .ok n => if itoa n = s then some n else none
  | _ => none
theorem numOf_itoa (n : Int) (h0 : -9223372036854775808 ≤ n) (h1 : n ≤ 9223372036854775807) : numOf (itoa n) = some n := by
  unfold numOf; rw [atoi_itoa n h0 h1]; simp
theorem itoa_numOf {s : List UInt8} {n : Int} (h : numOf s = some n) : s = itoa n := by
  unfold numOf at h
  split at h
  · split at h
    · rename_i e
      simp only [Option.some.injEq] at h
      rw [← e, h]
    · cases h
  · cases h
/-- No blank, and no semicolon. -/
def plainC (c : UInt8) : Bool := c != 32 && c != 59
theorem itoa_plain (n : Int) : ∀ c ∈ itoa n, plainC c = true := by
  intro c hc
  have key : ∀ c : UInt8, 45 ≤ c.toNat ∧ c.toNat ≤ 57 → plainC c = true := fun c h => by
    have h1 : c ≠ 32 := fun e => by rw [e] at h; revert h; decide
    have h2 : c ≠ 59 := fun e => by rw [e] at h; revert h; decide
    simp [plainC, h1, h2]
  unfold itoa at hc
  split at hc
  · rcases List.mem_cons.1 hc with rfl | hc
    · decide
    · have := digits_all _ c hc; exact key c (by omega)
  · have := digits_all _ c hc; exact key c (by omega)
end Go.Proofs.YthmkgfdglkdjmaeGreatDoor

namespace Go.Proofs.YthmkgfdglkdjmaeGreatDoor
open Go.Lib

abbrev T := List UInt8

/-! ### Cut, and put together -/
def spl1 (cur : T) : T → List T
  | [] => [cur]
  | c :: s => if c = 32 then cur :: spl1 [] s else spl1 (cur ++ [c]) s
def spl2 (cur : T) : T → List T
  | [] => [cur]
  | [c] => [cur ++ [c]]
  | c :: d :: s => if c = 59 ∧ d = 32 then cur :: spl2 [] s else spl2 (cur ++ [c]) (d :: s)
def join1 : List T → T
  | [] => []
  | [x] => x
  | x :: y :: l => x ++ 32 :: join1 (y :: l)
def join2 : List T → T
  | [] => []
  | [x] => x
  | x :: y :: l => x ++ 59 :: 32 :: join2 (y :: l)

theorem spl1_ne (cur s : T) : spl1 cur s ≠ [] := by
  induction s generalizing cur with
  | nil => simp [spl1]
  | cons c s ih => rw [spl1]; split <;> simp [ih]
theorem join1_cons (x : T) {l : List T} (h : l ≠ []) : join1 (x :: l) = x ++ 32 :: join1 l := by
  cases l with
  | nil => exact absurd rfl h
  | cons y l => rfl
theorem join1_spl1 : ∀ (s cur : T), join1 (spl1 cur s) = cur ++ s
  | [], cur => by simp [spl1, join1]
  | c :: s, cur => by
    rw [spl1]
    split
    · rename_i h
      rw [join1_cons _ (spl1_ne _ _), join1_spl1 s []]; simp [h]
    · rw [join1_spl1 s]; simp
theorem spl1_word (w cur s : T) (h : ∀ c ∈ w, c ≠ 32) : spl1 cur (w ++ s) = spl1 (cur ++ w) s := by
  induction w generalizing cur with
  | nil => simp
  | cons c w ih =>
    rw [List.cons_append, spl1, if_neg (h c (by simp)), ih _ (fun d hd => h d (by simp [hd]))]; simp
theorem spl1_join1 : ∀ (l : List T), l ≠ [] → (∀ x ∈ l, ∀ c ∈ x, c ≠ 32) → spl1 [] (join1 l) = l
  | [], h, _ => absurd rfl h
  | [x], _, hx => by
    have := spl1_word x [] [] (hx x (by simp))
    simpa [join1, spl1] using this
  | x :: y :: l, _, hx => by
    rw [join1_cons x (by simp), spl1_word x [] _ (hx x (by simp))]
    rw [spl1, if_pos rfl, spl1_join1 (y :: l) (by simp) (fun z hz => hx z (by simp [hz]))]
    simp

theorem spl2_ne : ∀ (s cur : T), spl2 cur s ≠ []
  | [], cur => by simp [spl2]
  | [c], cur => by simp [spl2]
  | c :: d :: s, cur => by rw [spl2]; split <;> simp [spl2_ne (d :: s)]
theorem join2_cons (x : T) {l : List T} (h : l ≠ []) : join2 (x :: l) = x ++ 59 :: 32 :: join2 l := by
  cases l with
  | nil => exact absurd rfl h
  | cons y l => rfl
theorem join2_spl2 : ∀ (s cur : T), join2 (spl2 cur s) = cur ++ s
  | [], cur => by simp [spl2, join2]
  | [c], cur => by simp [spl2, join2]
  | c :: d :: s, cur => by
    rw [spl2]
    split
    · rename_i h
      rw [join2_cons _ (spl2_ne _ _), join2_spl2 s []]; simp [h.1, h.2]
    · rw [join2_spl2 (d :: s)]; simp
theorem spl2_step (c : UInt8) (s cur : T) (h : c ≠ 59) : spl2 cur (c :: s) = spl2 (cur ++ [c]) s := by
  cases s with
  | nil => simp [spl2]
  | cons d s => rw [spl2, if_neg (fun e => h e.1)]
theorem spl2_word (w cur s : T) (h : ∀ c ∈ w, c ≠ 59) : spl2 cur (w ++ s) = spl2 (cur ++ w) s := by
  induction w generalizing cur with
  | nil => simp
  | cons c w ih =>
    rw [List.cons_append, spl2_step c _ _ (h c (by simp)), ih _ (fun d hd => h d (by simp [hd]))]; simp
theorem spl2_join2 : ∀ (l : List T), l ≠ [] → (∀ x ∈ l, ∀ c ∈ x, c ≠ 59) → spl2 [] (join2 l) = l
  | [], h, _ => absurd rfl h
  | [x], _, hx => by
    have := spl2_word x [] [] (hx x (by simp))
    simpa [join2, spl2] using this
  | x :: y :: l, _, hx => by
    rw [join2_cons x (by simp), spl2_word x [] _ (hx x (by simp))]
    rw [spl2, if_pos ⟨rfl, rfl⟩, spl2_join2 (y :: l) (by simp) (fun z hz => hx z (by simp [hz]))]
    simp
theorem join1_mem {c : UInt8} : ∀ {l : List T}, c ∈ join1 l → c = 32 ∨ ∃ x ∈ l, c ∈ x
  | [], h => by simp [join1] at h
  | [x], h => .inr ⟨x, by simp, by simpa [join1] using h⟩
  | x :: y :: l, h => by
    rw [join1_cons x (by simp)] at h
    rcases List.mem_append.1 h with h | h
    · exact .inr ⟨x, by simp, h⟩
    · rcases List.mem_cons.1 h with h | h
      · exact .inl h
      · rcases join1_mem h with h | ⟨z, hz, h⟩
        · exact .inl h
        · exact .inr ⟨z, by simp [hz], h⟩

/-! ### A deed's words -/
def keyT (k : ByteArray) : T := k.data.toList
def ofT (t : T) : ByteArray := ⟨t.toArray⟩
theorem ofT_keyT (k : ByteArray) : ofT (keyT k) = k := by cases k; simp [ofT, keyT]
theorem keyT_ofT (t : T) : keyT (ofT t) = t := by simp [ofT, keyT]
def wReads : T := [114, 101, 97, 100, 115]
def wWrites : T := [119, 114, 105, 116, 101, 115]
/-- The words of instructions: load, const, add, sub, mul, store, drop, skip, fail. -/
def word (k : Nat) : T := match k with
  | 1 => [108, 111, 97, 100]
  | 2 => [99, 111, 110, 115, 116]
  | 3 => [97, 100, 100]
  | 4 => [115, 117, 98]
  | 5 => [109, 117, 108]
  | 6 => [115, 116, 111, 114, 101]
  | 7 => [100, 114, 111, 112]
  | 8 => [115, 107, 105, 112]
  | 9 => [102, 97, 105, 108]
  | _ => []
def reg (n : Int) : T := 114 :: itoa n
def insWords (i : Ins) : List T :=
  if i.kind = 1 then [word 1, reg i.a, keyT i.key]
  else if i.kind = 2 then [word 2, reg i.a, itoa i.n]
  else if i.kind = 3 then [word 3, reg i.a, reg i.b]
  else if i.kind = 4 then [word 4, reg i.a, reg i.b]
  else if i.kind = 5 then [word 5, reg i.a, reg i.b]
  else if i.kind = 6 then [word 6, reg i.a, keyT i.key]
  else if i.kind = 7 then [word 7, keyT i.key]
  else if i.kind = 8 then [word 8, reg i.a, itoa i.n]
  else [word 9, reg i.a]
def partsOf (R W : List ByteArray) (C : List Ins) : List (List T) := (wReads :: R.map keyT) :: (wWrites :: W.map keyT) :: C.map insWords
def printT (R W : List ByteArray) (C : List Ins) : T := join2 ((partsOf R W C).map join1)

/-! ### Read -/
/-- The kind that a word is; 0: none. -/
def kindOf (w : T) : Nat :=
  if w = word 1 then 1 else if w = word 2 then 2 else if w = word 3 then 3 else if w = word 4 then 4 else if w = word 5 then 5 else if w = word 6 then 6 else if w = word 7 then 7 else if w = word 8 then 8 else if w = word 9 then 9 else 0
def regOf : T → Option Int
  | [] => none
  | c :: r => if c = 114 then numOf r else none
/-- One instruction's words, read. -/
def readIns (l : List T) : Int × Ins :=
  let k := kindOf (l.headD [])
  if k = 0 then (1, default)
  else if k = 1 ∨ k = 6 then match l with
    | [_, x, y] => (match regOf x with | some a => (0, ((k : Int), a, 0, 0, ofT y)) | none => (2, default))
    | _ => (2, default)
  else if k = 2 ∨ k = 8 then match l with
    | [_, x, y] => (match regOf x with | some a => (match numOf y with | some n => (0, ((k : Int), a, 0, n, ⟨#[]⟩)) | none => (2, default)) | none => (2, default))
    | _ => (2, default)
  else if k = 7 then match l with
    | [_, y] => (0, (7, 0, 0, 0, ofT y))
    | _ => (2, default)
  else if k = 9 then match l with
    | [_, x] => (match regOf x with | some a => (0, (9, a, 0, 0, ⟨#[]⟩)) | none => (2, default))
    | _ => (2, default)
  else match l with
    | [_, x, y] => (match regOf x with | some a => (match regOf y with | some b => (0, ((k : Int), a, b, 0, ⟨#[]⟩)) | none => (2, default)) | none => (2, default))
    | _ => (2, default)
def readCode : List T → Int × List Ins
  | [] => (0, [])
  | p :: ps => match readIns (spl1 [] p) with
    | (0, i) => (match readCode ps with
      | (0, C) => (0, i :: C)
      | (e, _) => (e, []))
    | (e, _) => (e, [])
/-- A text, read: an error, or 0 and a deed. -/
def readT (s : T) : Int × List ByteArray × List ByteArray × List Ins :=
  if 400 < s.length then (4, [], [], [])
  else match spl2 [] s with
    | p0 :: p1 :: ps =>
      if (spl1 [] p0).headD [] ≠ wReads then (2, [], [], [])
      else if (spl1 [] p1).headD [] ≠ wWrites then (2, [], [], [])
      else match readCode ps with
        | (0, C) =>
          let R := ((spl1 [] p0).drop 1).map ofT
          let W := ((spl1 [] p1).drop 1).map ofT
          if wDeed R W C = 0 then (0, R, W, C) else (wDeed R W C, [], [], [])
        | (e, _) => (e, [], [], [])
    | _ => (8, [], [], [])
end Go.Proofs.YthmkgfdglkdjmaeGreatDoor
