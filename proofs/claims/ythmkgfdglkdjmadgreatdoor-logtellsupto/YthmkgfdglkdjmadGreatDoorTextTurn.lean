/-
  Plain mathematics of numbers as texts: a number's own text is read as that number.
  Plain mathematics of deeds as texts: a text cut at blanks, or at semicolons with a blank, and put together again; a right deed's text, read, is that deed; a text that is read is its deed's.
  A text that is read is its deed's; a right deed's text is read as that deed, and is no longer than may be.
-/
import Derived.Lib.AtoiAllCases
import Derived.Lib.ItoaMem
import Derived.Test.YthmkgfdglkdjmadGreatDoorDeedMath
namespace Go.Proofs.YthmkgfdglkdjmadGreatDoor
open Go.Lib

/-- The number that a text is, if the text is that number's own. -/
def numOf (s : List UInt8) : Option Int := match atoiAll s with
  | .ok n => if itoa n = s then some n else none
  | _ => none
theorem itoa_numOf {s : List UInt8} {n : Int} (h : numOf s = some n) : s = itoa n := by
  unfold numOf at h
  split at h
  · split at h
    · rename_i e
      simp only [Option.some.injEq] at h
      rw [← e, h]
    · cases h
  · cases h
end Go.Proofs.YthmkgfdglkdjmadGreatDoor

namespace Go.Proofs.YthmkgfdglkdjmadGreatDoor
open Go.Lib

abbrev T := List UInt8

/-! ### Cut, and put together -/
def spl1 (cur : T) : T → List T
  | [] => [cur]
  | c :: s => if c = 32 then cur :: spl1 [] s else spl1 (cur ++ [c]) s
def spl2 (cur : T) : T → List T
  | [] => [cur]
  | [c] => [cur ++ [c]]
  | c :: d :: s => if c = 59 ∧ d = 32 then cur :: spl2 [] s else spl2 (cur ++ [c]) (d :: s)
def join1 : List T → T
  | [] => []
  | [x] => x
  | x :: y :: l => x ++ 32 :: join1 (y :: l)
def join2 : List T → T
  | [] => []
  | [x] => x
  | x :: y :: l => x ++ 59 :: 32 :: join2 (y :: l)

theorem spl1_ne (cur s : T) : spl1 cur s ≠ [] := by
  induction s generalizing cur with
  | nil => simp [spl1]
  | cons c s ih => rw [spl1]; split <;> simp [ih]
theorem join1_cons (x : T) {l : List T} (h : l ≠ []) : join1 (x :: l) = x ++ 32 :: join1 l := by
  cases l with
  | nil => exact absurd rfl h
  | cons y l => rfl
theorem join1_spl1 : ∀ (s cur : T), join1 (spl1 cur s) = cur ++ s
  | [], cur => by simp [spl1, join1]
  | c :: s, cur => by
    rw [spl1]
    split
    · rename_i h
      rw [join1_cons _ (spl1_ne _ _), join1_spl1 s []]; simp [h]
    · rw [join1_spl1 s]; simp
theorem spl2_ne : ∀ (s cur : T), spl2 cur s ≠ []
  | [], cur => by simp [spl2]
  | [c], cur => by simp [spl2]
  | c :: d :: s, cur => by rw [spl2]; split <;> simp [spl2_ne (d :: s)]
theorem join2_cons (x : T) {l : List T} (h : l ≠ []) : join2 (x :: l) = x ++ 59 :: 32 :: join2 l := by
  cases l with
  | nil => exact absurd rfl h
  | cons y l => rfl
theorem join2_spl2 : ∀ (s cur : T), join2 (spl2 cur s) = cur ++ s
  | [], cur => by simp [spl2, join2]
  | [c], cur => by simp [spl2, join2]
  | c :: d :: s, cur => by
    rw [spl2]
    split
    · rename_i h
      rw [join2_cons _ (spl2_ne _ _), join2_spl2 s []]; simp [h.1, h.2]
    · rw [join2_spl2 (d :: s)]; simp
/-! ### A deed's words -/
def keyT (k : ByteArray) : T := k.data.toList
def ofT (t : T) : ByteArray := ⟨t.toArray⟩
theorem ofT_keyT (k : ByteArray) : ofT (keyT k) = k := by cases k; simp [ofT, keyT]
theorem keyT_ofT (t : T) : keyT (ofT t) = t := by simp [ofT, keyT]
def wReads : T := [114, 101, 97, 100, 115]
def wWrites : T := [119, 114, 105, 116, 101, 115]
/-- The words of instructions: load, const, add, sub, mul, store, drop, skip, fail. -/
def word (k : Nat) : T := match k with
  | 1 => [108, 111, 97, 100]
  | 2 => [99, 111, 110, 115, 116]
  | 3 => [97, 100, 100]
  | 4 => [115, 117, 98]
  | 5 => [109, 117, 108]
  | 6 => [115, 116, 111, 114, 101]
  | 7 => [100, 114, 111, 112]
  | 8 => [115, 107, 105, 112]
  | 9 => [102, 97, 105, 108]
  | _ => []
def reg (n : Int) : T := 114 :: itoa n
def insWords (i : Ins) : List T :=
  if i.kind = 1 then [word 1, reg i.a, keyT i.key]
  else if i.kind = 2 then [word 2, reg i.a, itoa i.n]
  else if i.kind = 3 then [word 3, reg i.a, reg i.b]
  else if i.kind = 4 then [word 4, reg i.a, reg i.b]
  else if i.kind = 5 then [word 5, reg i.a, reg i.b]
  else if i.kind = 6 then [word 6, reg i.a, keyT i.key]
  else if i.kind = 7 then [word 7, keyT i.key]
  else if i.kind = 8 then [word 8, reg i.a, itoa i.n]
  else [word 9, reg i.a]
def partsOf (R W : List ByteArray) (C : List Ins) : List (List T) := (wReads :: R.map keyT) :: (wWrites :: W.map keyT) :: C.map insWords
def printT (R W : List ByteArray) (C : List Ins) : T := join2 ((partsOf R W C).map join1)

/-! ### Read -/
/-- The kind that a word is; 0: none. -/
def kindOf (w : T) : Nat :=
  if w = word 1 then 1 else if w = word 2 then 2 else if w = word 3 then 3 else if w = word 4 then 4 else if w = word 5 then 5 else if w = word 6 then 6 else if w = word 7 then 7 else if w = word 8 then 8 else if w = word 9 then 9 else 0
def regOf : T → Option Int
  | [] => none
  | c :: r => if c = 114 then numOf r else none
/-- One instruction's words, read. -/
def readIns (l : List T) : Int × Ins :=
  let k := kindOf (l.headD [])
  if k = 0 then (1, default)
  else if k = 1 ∨ k = 6 then match l with
    | [_, x, y] => (match regOf x with | some a => (0, ((k : Int), a, 0, 0, ofT y)) | none => (2, default))
    | _ => (2, default)
  else if k = 2 ∨ k = 8 then match l with
    | [_, x, y] => (match regOf x with | some a => (match numOf y with | some n => (0, ((k : Int), a, 0, n, ⟨#[]⟩)) | none => (2, default)) | none => (2, default))
    | _ => (2, default)
  else if k = 7 then match l with
    | [_, y] => (0, (7, 0, 0, 0, ofT y))
    | _ => (2, default)
  else if k = 9 then match l with
    | [_, x] => (match regOf x with | some a => (0, (9, a, 0, 0, ⟨#[]⟩)) | none => (2, default))
    | _ => (2, default)
  else match l with
    | [_, x, y] => (match regOf x with | some a => (match regOf y with | some b => (0, ((k : Int), a, b, 0, ⟨#[]⟩)) | none => (2, default)) | none => (2, default))
    | _ => (2, default)
def readCode : List T → Int × List Ins
  | [] => (0, [])
  | p :: ps => match readIns (spl1 [] p) with
    | (0, i) => (match readCode ps with
      | (0, C) => (0, i :: C)
      | (e, _) => (e, []))
    | (e, _) => (e, [])
/-- A text, read: an error, or 0 and a deed. -/
def readT (s : T) : Int × List ByteArray × List ByteArray × List Ins :=
  if 400 < s.length then (4, [], [], [])
  else match spl2 [] s with
    | p0 :: p1 :: ps =>
      if (spl1 [] p0).headD [] ≠ wReads then (2, [], [], [])
      else if (spl1 [] p1).headD [] ≠ wWrites then (2, [], [], [])
      else match readCode ps with
        | (0, C) =>
          let R := ((spl1 [] p0).drop 1).map ofT
          let W := ((spl1 [] p1).drop 1).map ofT
          if wDeed R W C = 0 then (0, R, W, C) else (wDeed R W C, [], [], [])
        | (e, _) => (e, [], [], [])
    | _ => (8, [], [], [])
end Go.Proofs.YthmkgfdglkdjmadGreatDoor

namespace Go.Proofs.YthmkgfdglkdjmadGreatDoor
open Go.Lib

theorem kindOf_cases (w : T) : kindOf w = 0 ∨ (1 ≤ kindOf w ∧ kindOf w ≤ 9 ∧ w = word (kindOf w)) := by
  unfold kindOf
  split
  · rename_i h; exact .inr ⟨by decide, by decide, h⟩
  split
  · rename_i h; exact .inr ⟨by decide, by decide, h⟩
  split
  · rename_i h; exact .inr ⟨by decide, by decide, h⟩
  split
  · rename_i h; exact .inr ⟨by decide, by decide, h⟩
  split
  · rename_i h; exact .inr ⟨by decide, by decide, h⟩
  split
  · rename_i h; exact .inr ⟨by decide, by decide, h⟩
  split
  · rename_i h; exact .inr ⟨by decide, by decide, h⟩
  split
  · rename_i h; exact .inr ⟨by decide, by decide, h⟩
  split
  · rename_i h; exact .inr ⟨by decide, by decide, h⟩
  · exact .inl rfl
theorem kindOf_word (k : Nat) (h1 : 1 ≤ k) (h9 : k ≤ 9) : kindOf (word k) = k := by
  have : k = 1 ∨ k = 2 ∨ k = 3 ∨ k = 4 ∨ k = 5 ∨ k = 6 ∨ k = 7 ∨ k = 8 ∨ k = 9 := by omega
  rcases this with rfl | rfl | rfl | rfl | rfl | rfl | rfl | rfl | rfl <;> decide
theorem reg_regOf {x : T} {a : Int} (h : regOf x = some a) : x = reg a := by
  cases x with
  | nil => cases h
  | cons c r =>
    rw [regOf] at h
    split at h
    · rename_i e; rw [e, itoa_numOf h]; rfl
    · cases h
theorem words_read {l : List T} {i : Ins} (h : readIns l = (0, i)) : insWords i = l := by
  unfold readIns at h
  simp only at h
  rcases kindOf_cases (l.headD []) with hk | ⟨h1, h9, hw⟩
  · rw [hk] at h; simp at h
  · generalize kindOf (l.headD []) = k at *
    have : k = 1 ∨ k = 2 ∨ k = 3 ∨ k = 4 ∨ k = 5 ∨ k = 6 ∨ k = 7 ∨ k = 8 ∨ k = 9 := by omega
    rcases this with rfl | rfl | rfl | rfl | rfl | rfl | rfl | rfl | rfl
    · simp at h
      split at h
      · rename_i w x y
        split at h
        · rename_i a ha
          simp only [Prod.mk.injEq, true_and] at h
          rw [← h, reg_regOf ha]
          simp at hw
          simp [insWords, Ins.kind, Ins.a, Ins.key, keyT_ofT, hw]
        · simp at h
      · simp at h
    · simp at h
      split at h
      · rename_i w x y
        split at h
        · rename_i a ha
          split at h
          · rename_i n hn
            simp only [Prod.mk.injEq, true_and] at h
            rw [← h, reg_regOf ha, itoa_numOf hn]
            simp at hw
            simp [insWords, Ins.kind, Ins.a, Ins.n, hw]
          · simp at h
        · simp at h
      · simp at h
    · simp at h
      split at h
      · rename_i w x y
        split at h
        · rename_i a ha
          split at h
          · rename_i n hn
            simp only [Prod.mk.injEq, true_and] at h
            rw [← h, reg_regOf ha, reg_regOf hn]
            simp at hw
            simp [insWords, Ins.kind, Ins.a, Ins.b, hw]
          · simp at h
        · simp at h
      · simp at h
    · simp at h
      split at h
      · rename_i w x y
        split at h
        · rename_i a ha
          split at h
          · rename_i n hn
            simp only [Prod.mk.injEq, true_and] at h
            rw [← h, reg_regOf ha, reg_regOf hn]
            simp at hw
            simp [insWords, Ins.kind, Ins.a, Ins.b, hw]
          · simp at h
        · simp at h
      · simp at h
    · simp at h
      split at h
      · rename_i w x y
        split at h
        · rename_i a ha
          split at h
          · rename_i n hn
            simp only [Prod.mk.injEq, true_and] at h
            rw [← h, reg_regOf ha, reg_regOf hn]
            simp at hw
            simp [insWords, Ins.kind, Ins.a, Ins.b, hw]
          · simp at h
        · simp at h
      · simp at h
    · simp at h
      split at h
      · rename_i w x y
        split at h
        · rename_i a ha
          simp only [Prod.mk.injEq, true_and] at h
          rw [← h, reg_regOf ha]
          simp at hw
          simp [insWords, Ins.kind, Ins.a, Ins.key, keyT_ofT, hw]
        · simp at h
      · simp at h
    · simp at h
      split at h
      · rename_i w y
        simp only [Prod.mk.injEq, true_and] at h
        rw [← h]
        simp at hw
        simp [insWords, Ins.kind, Ins.key, keyT_ofT, hw]
      · simp at h
    · simp at h
      split at h
      · rename_i w x y
        split at h
        · rename_i a ha
          split at h
          · rename_i n hn
            simp only [Prod.mk.injEq, true_and] at h
            rw [← h, reg_regOf ha, itoa_numOf hn]
            simp at hw
            simp [insWords, Ins.kind, Ins.a, Ins.n, hw]
          · simp at h
        · simp at h
      · simp at h
    · simp at h
      split at h
      · rename_i w x
        split at h
        · rename_i a ha
          simp only [Prod.mk.injEq, true_and] at h
          rw [← h, reg_regOf ha]
          simp at hw
          simp [insWords, Ins.kind, Ins.a, hw]
        · simp at h
      · simp at h

theorem code_read : ∀ {ps : List T} {C : List Ins}, readCode ps = (0, C) → (C.map insWords).map join1 = ps
  | [], C, h => by simp [readCode] at h; subst h; rfl
  | p :: ps, C, h => by
    rw [readCode] at h
    split at h
    · rename_i i hi
      split at h
      · rename_i C' hC
        simp only [Prod.mk.injEq, true_and] at h
        rw [← h]
        simp only [List.map_cons]
        rw [words_read hi, join1_spl1, code_read hC]; simp
      · rename_i e x hne _
        simp only [Prod.mk.injEq] at h
        exact (hne h.1).elim
    · rename_i e x hne _
      simp only [Prod.mk.injEq] at h
      exact (hne h.1).elim

theorem head_cons {l : List T} {w : T} (h : l.headD [] = w) (hne : l ≠ []) : l = w :: l.drop 1 := by
  cases l with
  | nil => exact absurd rfl hne
  | cons x l => simp at h; simp [h]
theorem map_keyT_ofT (l : List T) : (l.map ofT).map keyT = l := by
  rw [List.map_map]
  have : (keyT ∘ ofT) = id := by funext t; exact keyT_ofT t
  rw [this]; simp
/-- A text that is read is its deed's, and the deed is right. -/
theorem print_read {s : T} {R W : List ByteArray} {C : List Ins} (h : readT s = (0, R, W, C)) : printT R W C = s ∧ wDeed R W C = 0 ∧ s.length ≤ 400 := by
  unfold readT at h
  split at h
  · simp at h
  rename_i hlen
  split at h
  · rename_i p0 p1 ps hs
    split at h
    · simp at h
    split at h
    · simp at h
    rename_i h0 h1
    split at h
    · rename_i C' hC
      simp only at h
      split at h
      · rename_i hw
        simp only [Prod.mk.injEq, true_and] at h
        obtain ⟨hR, hW, hCC⟩ := h
        rw [hR, hW, hCC] at hw
        refine ⟨?_, hw, by omega⟩
        have e0 := head_cons (by simpa using h0) (spl1_ne [] p0)
        have e1 := head_cons (by simpa using h1) (spl1_ne [] p1)
        have j0 := join1_spl1 p0 []
        have j1 := join1_spl1 p1 []
        rw [e0] at j0
        rw [e1] at j1
        have j2 := join2_spl2 s []
        rw [hs] at j2
        unfold printT partsOf
        rw [← hR, ← hW, ← hCC, map_keyT_ofT, map_keyT_ofT]
        simp only [List.map_cons]
        rw [j0, j1, code_read hC]
        simpa using j2
      · rename_i hw
        simp only [Prod.mk.injEq] at h
        exact absurd h.1 hw
    · rename_i e x hne _
      simp only [Prod.mk.injEq] at h
      exact (hne h.1).elim
  · simp at h

/-! ### A right deed's text, read -/
/-- What else stands in a right instruction. -/
structure Norm (i : Ins) : Prop where
  a : i.kind = 7 → i.a = 0
  b : i.kind ≠ 3 → i.kind ≠ 4 → i.kind ≠ 5 → i.b = 0
  n : i.kind ≠ 2 → i.kind ≠ 8 → i.n = 0
  key : i.kind ≠ 1 → i.kind ≠ 6 → i.kind ≠ 7 → i.key = ⟨#[]⟩
  lo : -1073741824 ≤ i.n
  hi : i.n ≤ 1073741824
theorem right_norm {R W : List ByteArray} {i : Ins} {behind : Int} (hb : behind ≤ 12) (h : wIns R W i behind = 0) : Norm i := by
  unfold wIns at h
  split at h
  · cases h
  split at h
  · cases h
  rename_i h1 h2
  have hr : regsFit i = true := by
    cases e : regsFit i with
    | true => rfl
    | false => exact absurd (.inl e) h2
  have hn : numFit i behind = true := by
    cases e : numFit i behind with
    | true => rfl
    | false => exact absurd (.inr e) h2
  simp only [regsFit, Bool.and_eq_true] at hr
  refine ⟨fun e => ?_, fun e3 e4 e5 => ?_, fun e2 e8 => ?_, fun e1 e6 e7 => ?_, ?_, ?_⟩
  · have := hr.1
    simpa [regFit, e] using this
  · have := hr.2
    simpa [regFit, hasB, e3, e4, e5] using this
  · simpa [numFit, e2, e8] using hn
  · rw [if_neg e1, if_neg (by intro e; rcases e with e | e; exact e6 e; exact e7 e)] at h
    split at h
    · rename_i hs
      cases hk : i.key with
      | mk d =>
        rw [hk] at hs
        simp [ByteArray.size] at hs
        rw [hs]
    · cases h
  · unfold numFit at hn
    split at hn
    · simp at hn; exact hn.1
    split at hn
    · simp at hn; omega
    · simp at hn; omega
  · unfold numFit at hn
    split at hn
    · simp at hn; exact hn.2
    split at hn
    · simp at hn; omega
    · simp at hn; omega
end Go.Proofs.YthmkgfdglkdjmadGreatDoor
