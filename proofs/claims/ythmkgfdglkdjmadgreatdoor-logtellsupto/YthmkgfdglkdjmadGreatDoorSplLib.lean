/-
  Plain mathematics of bytes that are read one by one: the sum so far, lines so far, and what stands behind the last one.
  Plain mathematics of lines that are cut off one by one, and of a sum that is written as two bytes.
  The three ways of cutting a text at a text, told of both cuts at once.
  The library's Split and Join are the cuts and the joins of a deed's text.
-/
import Derived.Test.YthmkgfdglkdjmadGreatDoorLogMath
import Derived.Lib.Bytealg
import Derived.Test.YthmkgfdglkdjmadGreatDoorTextTurn
import Derived.Lib.SplitLaws
import Derived.Lib.Join
namespace Go.Proofs.YthmkgfdglkdjmadGreatDoor
open Go.RowKit

/-! ### The sum -/
theorem sum_snoc (l : T) (c : UInt8) : sumT (l ++ [c]) = stepS (sumT l) c := by unfold sumT sumFrom; simp
theorem sum_take {l : T} {j : Nat} (h : j < l.length) : sumT (l.take (j + 1)) = stepS (sumT (l.take j)) (l.getD j 0) := by
  rw [show l.take (j + 1) = l.take j ++ [l.getD j 0] from by
    rw [List.take_add_one]
    simp [List.getD, h], sum_snoc]
/-! ### Lines -/
theorem lines_snoc : ∀ (s cur : T) (c : UInt8), linesT cur (s ++ [c]) = (if c = 10 then linesT cur s ++ [restT cur s] else linesT cur s) ∧ restT cur (s ++ [c]) = (if c = 10 then [] else restT cur s ++ [c])
  | [], cur, c => by
    by_cases h : c = 10
    · simp [linesT, restT, h]
    · simp [linesT, restT, h]
  | d :: s, cur, c => by
    rw [List.cons_append, linesT, restT, linesT, restT]
    by_cases h : d = 10
    · rw [if_pos h, if_pos h, if_pos h, if_pos h]
      obtain ⟨h1, h2⟩ := lines_snoc s [] c
      rw [h1, h2]
      refine ⟨?_, rfl⟩
      split <;> rfl
    · rw [if_neg h, if_neg h, if_neg h, if_neg h]
      exact lines_snoc s _ c
/-- How far a reading is at place i: where the line begins that stands open, and the deeds so far. -/
structure LinesTo (b : T) (i from_ : Nat) (D : List Deed3) : Prop where
  lo : 1 ≤ from_
  hi : from_ ≤ i
  open_ : restT [] ((b.take i).drop 1) = (b.take i).drop from_
  read : readLines (linesT [] ((b.take i).drop 1)) = (0, D)
theorem lines_start (b : T) (h : 1 ≤ b.length) : LinesTo b 1 1 [] := by
  have e : (b.take 1).drop 1 = [] := by rw [List.drop_eq_nil_iff, List.length_take]; omega
  exact ⟨Nat.le_refl _, Nat.le_refl _, by rw [e]; rfl, by rw [e]; rfl⟩
theorem take_drop_succ {b : T} {i k : Nat} (hi : i < b.length) (hk : k ≤ i) : (b.take (i + 1)).drop k = (b.take i).drop k ++ [b.getD i 0] := by
  rw [show b.take (i + 1) = b.take i ++ [b.getD i 0] from by
    rw [List.take_add_one]
    simp [List.getD, hi]]
  rw [List.drop_append_of_le_length (by rw [List.length_take]; omega)]
theorem lines_on {b : T} {i from_ : Nat} {D : List Deed3} (h : LinesTo b i from_ D) (hi : i < b.length) (hc : b.getD i 0 ≠ 10) : LinesTo b (i + 1) from_ D := by
  obtain ⟨h1, h2⟩ := lines_snoc ((b.take i).drop 1) [] (b.getD i 0)
  rw [if_neg hc] at h1 h2
  rw [← take_drop_succ hi (Nat.le_trans h.lo h.hi)] at h1 h2
  exact ⟨h.lo, Nat.le_succ_of_le h.hi, by rw [h2, h.open_, ← take_drop_succ hi h.hi], by rw [h1]; exact h.read⟩
theorem readLines_snoc : ∀ {L : List T} {D : List Deed3} (x : T), readLines L = (0, D) → readLines (L ++ [x]) = if (readT x).1 = 0 then (0, D ++ [(readT x).2]) else ((readT x).1, [])
  | [], D, x, h => by
    simp only [readLines, Prod.mk.injEq, true_and] at h
    subst h
    by_cases hx : (readT x).1 = 0
    · simp [readLines, hx]
    · simp [readLines, hx]
  | y :: L, D, x, h => by
    rw [readLines] at h
    by_cases h1 : (readT y).1 = 0
    · rw [if_pos h1] at h
      by_cases h2 : (readLines L).1 = 0
      · rw [if_pos h2] at h
        simp only [Prod.mk.injEq, true_and] at h
        subst h
        have ih := readLines_snoc (L := L) (D := (readLines L).2) x (Prod.ext h2 rfl)
        rw [List.cons_append, readLines, if_pos h1, ih]
        by_cases hx : (readT x).1 = 0
        · rw [if_pos hx, if_pos hx]; simp
        · rw [if_neg hx, if_neg hx]
          simp [hx]
      · rw [if_neg h2] at h
        exact absurd (congrArg Prod.fst h) h2
    · rw [if_neg h1] at h
      exact absurd (congrArg Prod.fst h) h1
/-- Behind a line that is wrong nothing is looked at. -/
theorem readLines_stop : ∀ {L : List T} {q : Int} (L' : List T), q ≠ 0 → readLines L = (q, []) → readLines (L ++ L') = (q, [])
  | [], q, _, hq, h => by
    simp only [readLines, Prod.mk.injEq] at h
    exact absurd h.1.symm hq
  | y :: L, q, L', hq, h => by
    rw [readLines] at h
    rw [List.cons_append, readLines]
    by_cases h1 : (readT y).1 = 0
    · rw [if_pos h1] at h ⊢
      by_cases h2 : (readLines L).1 = 0
      · rw [if_pos h2] at h
        simp only [Prod.mk.injEq] at h
        exact absurd h.1.symm hq
      · rw [if_neg h2] at h
        simp only [Prod.mk.injEq, and_true] at h
        have ih := readLines_stop (L := L) L' hq (Prod.ext h (by
          have : ∀ L : List T, (readLines L).1 ≠ 0 → (readLines L).2 = [] := by
            intro L hL
            cases L with
            | nil => exact absurd rfl hL
            | cons z L =>
              rw [readLines] at hL ⊢
              by_cases g1 : (readT z).1 = 0
              · rw [if_pos g1] at hL ⊢
                by_cases g2 : (readLines L).1 = 0
                · rw [if_pos g2] at hL; exact absurd rfl hL
                · rw [if_neg g2]
              · rw [if_neg g1]
          exact this L h2))
        rw [ih]
        simp [hq]
    · rw [if_neg h1] at h ⊢
      exact h
theorem lines_append : ∀ (s t cur : T), linesT cur (s ++ t) = linesT cur s ++ linesT (restT cur s) t
  | [], t, cur => by simp [linesT, restT]
  | c :: s, t, cur => by
    rw [List.cons_append, linesT, linesT, restT]
    split
    · rw [lines_append s t []]; rfl
    · rw [lines_append s t _]
theorem lines_feed {b : T} {i from_ : Nat} {D : List Deed3} (h : LinesTo b i from_ D) (hi : i < b.length) (hc : b.getD i 0 = 10) (hr : (readT ((b.take i).drop from_)).1 = 0) : LinesTo b (i + 1) (i + 1) (D ++ [(readT ((b.take i).drop from_)).2]) := by
  obtain ⟨h1, h2⟩ := lines_snoc ((b.take i).drop 1) [] (b.getD i 0)
  rw [if_pos hc] at h1 h2
  rw [← take_drop_succ hi (Nat.le_trans h.lo h.hi)] at h1 h2
  have h3 := readLines_snoc ((b.take i).drop from_) h.read
  rw [if_pos hr] at h3
  refine ⟨by omega, Nat.le_refl _, ?_, ?_⟩
  · rw [h2]
    symm
    rw [List.drop_eq_nil_iff, List.length_take]
    omega
  · rw [h1, h.open_]; exact h3
/-- A line that is wrong tells what the whole is. -/
theorem lines_wrong {b : T} {i from_ n : Nat} {D : List Deed3} (h : LinesTo b i from_ D) (hi : i < n) (hn : n ≤ b.length) (hc : b.getD i 0 = 10) (hr : (readT ((b.take i).drop from_)).1 ≠ 0) : readLines (linesT [] ((b.take n).drop 1)) = ((readT ((b.take i).drop from_)).1, []) := by
  obtain ⟨h1, _⟩ := lines_snoc ((b.take i).drop 1) [] (b.getD i 0)
  rw [if_pos hc, ← take_drop_succ (by omega) (Nat.le_trans h.lo h.hi)] at h1
  have h3 := readLines_snoc ((b.take i).drop from_) h.read
  rw [if_neg hr] at h3
  have e : b.take n = b.take (i + 1) ++ (b.take n).drop (i + 1) := by
    have := (List.take_append_drop (i + 1) (b.take n)).symm
    rw [List.take_take, Nat.min_eq_left (by omega)] at this
    exact this
  rw [e, List.drop_append_of_le_length (by rw [List.length_take]; have := h.lo; have := h.hi; omega), lines_append, h1, h.open_]
  exact readLines_stop _ hr h3
end Go.Proofs.YthmkgfdglkdjmadGreatDoor

namespace Go.Proofs.YthmkgfdglkdjmadGreatDoor
open Go.Lib

theorem index_feed : ∀ {s : T}, (10 : UInt8) ∈ s → ∃ i : Nat, indexByte s 10 = (i : Int) ∧ i < s.length ∧ s.getD i 0 = 10 ∧ ∀ c ∈ s.take i, c ≠ 10
  | [], h => by cases h
  | b :: l, h => by
    unfold indexByte
    by_cases e : b = 10
    · subst e
      exact ⟨0, rfl, by simp, rfl, fun c hc => by simp at hc⟩
    · have h' : (10 : UInt8) ∈ l := by
        rcases List.mem_cons.1 h with h | h
        · exact absurd h.symm e
        · exact h
      obtain ⟨i, h1, h2, h3, h4⟩ := index_feed h'
      have e1 : (b == 10) = false := by simpa using e
      refine ⟨i + 1, ?_, by simp; omega, by simpa [List.getD] using h3, fun c hc => ?_⟩
      · rw [e1, h1]
        have : ((i : Int) == -1) = false := by simp
        rw [this]
        simp
      · rcases List.mem_cons.1 (by simpa using hc) with rfl | hc
        · exact e
        · exact h4 c hc
theorem lines_cut {s : T} {i : Nat} (hi : i < s.length) (hc : s.getD i 0 = 10) (hn : ∀ c ∈ s.take i, c ≠ 10) : linesT [] s = s.take i :: linesT [] (s.drop (i + 1)) := by
  have e : s = s.take i ++ 10 :: s.drop (i + 1) := by
    have h1 := (List.take_append_drop i s).symm
    rw [List.drop_eq_getElem_cons hi] at h1
    have h2 : s[i] = 10 := by simpa [List.getD, hi] using hc
    rw [h2] at h1
    exact h1
  have h2 : linesT [] (s.take i ++ 10 :: s.drop (i + 1)) = s.take i :: linesT [] (s.drop (i + 1)) := by
    rw [lines_word _ _ _ hn, linesT, if_pos rfl]
    rfl
  rw [← e] at h2
  exact h2
/-- Every line of it has its end. -/
def Ended (s : T) : Prop := s = [] ∨ s.getLast? = some 10
theorem ended_feed {s : T} (h : Ended s) (hs : s ≠ []) : (10 : UInt8) ∈ s := by
  rcases h with h | h
  · exact absurd h hs
  · exact List.mem_of_getLast? h
theorem ended_drop {s : T} (h : Ended s) (k : Nat) : Ended (s.drop k) := by
  by_cases e : s.length ≤ k
  · left; exact List.drop_eq_nil_iff.2 e
  · rcases h with h | h
    · subst h; simp at e
    · right
      rw [List.getLast?_drop, if_neg e]
      exact h
/-- What a reading has done when s stands yet to be read. -/
structure LinesLeft (whole s : T) (D : List Deed3) : Prop where
  done : ∃ L, linesT [] whole = L ++ linesT [] s ∧ readLines L = (0, D)
  ends : Ended s
  few : D.length + s.length ≤ whole.length
theorem left_start {s : T} (h : Ended s) : LinesLeft s s [] := ⟨⟨[], rfl, rfl⟩, h, by simp⟩
theorem left_end {whole : T} {D : List Deed3} (h : LinesLeft whole [] D) : readLines (linesT [] whole) = (0, D) := by
  obtain ⟨L, h1, h2⟩ := h.done
  rw [h1]
  simpa [linesT] using h2
theorem left_on {whole s : T} {D : List Deed3} {i : Nat} (h : LinesLeft whole s D) (hi : i < s.length) (hc : s.getD i 0 = 10) (hn : ∀ c ∈ s.take i, c ≠ 10) (hr : (readT (s.take i)).1 = 0) : LinesLeft whole (s.drop (i + 1)) (D ++ [(readT (s.take i)).2]) := by
  obtain ⟨L, h1, h2⟩ := h.done
  refine ⟨⟨L ++ [s.take i], by rw [h1, lines_cut hi hc hn, List.append_assoc]; rfl, ?_⟩, ended_drop h.ends _, ?_⟩
  · have := readLines_snoc (s.take i) h2
    rw [if_pos hr] at this
    exact this
  · have := h.few
    rw [List.length_append, List.length_drop]
    simp
    omega
theorem left_wrong {whole s : T} {D : List Deed3} {i : Nat} (h : LinesLeft whole s D) (hi : i < s.length) (hc : s.getD i 0 = 10) (hn : ∀ c ∈ s.take i, c ≠ 10) (hr : (readT (s.take i)).1 ≠ 0) : readLines (linesT [] whole) = ((readT (s.take i)).1, []) := by
  obtain ⟨L, h1, h2⟩ := h.done
  rw [h1, lines_cut hi hc hn, show L ++ s.take i :: linesT [] (s.drop (i + 1)) = (L ++ [s.take i]) ++ linesT [] (s.drop (i + 1)) by simp]
  have h3 := readLines_snoc (s.take i) h2
  rw [if_neg hr] at h3
  exact readLines_stop _ hr h3

/-! ### The sum as two bytes -/
def sumB (s : Nat) : T := [UInt8.ofNat (s / 256), UInt8.ofNat (s % 256)]
theorem sum_bytes {b : T} (h : 3 ≤ b.length) : b.drop (b.length - 2) = sumB (sumT (b.take (b.length - 2))) ↔ sumOk b = true := by
  have hs := sumT_lt (b.take (b.length - 2))
  have hd : b.drop (b.length - 2) = [b.getD (b.length - 2) 0, b.getD (b.length - 1) 0] := by
    rw [List.drop_eq_getElem_cons (by omega), show b.length - 2 + 1 = b.length - 1 from by omega, List.drop_eq_getElem_cons (by omega), show b.length - 1 + 1 = b.length from by omega, List.drop_length]
    have h1 : b.length - 2 < b.length := by omega
    have h2 : b.length - 1 < b.length := by omega
    simp [List.getD, h1, h2]
  rw [hd]
  unfold sumOk sumB
  generalize sumT (b.take (b.length - 2)) = s at *
  generalize b.getD (b.length - 2) 0 = x at *
  generalize b.getD (b.length - 1) 0 = y at *
  have hx := x.toNat_lt
  have hy := y.toNat_lt
  have h1 : (UInt8.ofNat (s / 256)).toNat = s / 256 := ofNat_small (by omega)
  have h2 : (UInt8.ofNat (s % 256)).toNat = s % 256 := ofNat_small (by omega)
  rw [decide_eq_true_iff]
  constructor
  · intro e
    simp only [List.cons.injEq, and_true] at e
    have e1 := congrArg UInt8.toNat e.1
    have e2 := congrArg UInt8.toNat e.2
    rw [h1] at e1
    rw [h2] at e2
    omega
  · intro e
    have e1 : x = UInt8.ofNat (s / 256) := UInt8.toNat_inj.1 (by rw [h1]; omega)
    have e2 : y = UInt8.ofNat (s % 256) := UInt8.toNat_inj.1 (by rw [h2]; omega)
    rw [e1, e2]
theorem bytesE_is (e : Ent) : bytesE e = dataE e ++ sumB (sumT (dataE e)) := rfl
/-- What is behind the first byte ends as it should. -/
theorem ended_iff {b : T} (h : 3 ≤ b.length) : Ended ((b.take (b.length - 2)).drop 1) ↔ ¬ (3 < b.length ∧ b.getD (b.length - 3) 0 ≠ 10) := by
  by_cases h3 : b.length = 3
  · have e : (b.take (b.length - 2)).drop 1 = [] := by rw [List.drop_eq_nil_iff, List.length_take]; omega
    exact ⟨fun _ => by omega, fun _ => .inl e⟩
  · have hl : ((b.take (b.length - 2)).drop 1).getLast? = some (b.getD (b.length - 3) 0) := by
      rw [List.getLast?_drop, if_neg (by rw [List.length_take]; omega), List.getLast?_eq_getElem?, List.length_take, show min (b.length - 2) b.length - 1 = b.length - 3 by omega, List.getElem?_take_of_lt (by omega)]
      have : b.length - 3 < b.length := by omega
      simp [List.getD, this]
    unfold Ended
    rw [hl]
    have hne : (b.take (b.length - 2)).drop 1 ≠ [] := fun e => by rw [e] at hl; cases hl
    constructor
    · rintro (e | e)
      · exact absurd e hne
      · simp only [Option.some.injEq] at e
        exact fun h => h.2 e
    · intro hn
      right
      have : b.getD (b.length - 3) 0 = 10 := by
        by_cases e : b.getD (b.length - 3) 0 = 10
        · exact e
        · exact absurd ⟨by omega, e⟩ hn
      rw [this]
end Go.Proofs.YthmkgfdglkdjmadGreatDoor

namespace Go.Proofs.YthmkgfdglkdjmadGreatDoor

/-- What cuts a text at a text does, step by step: sep is the text at which it is cut, spl what comes of it behind the signs cur. -/
structure Cuts (sep : T) (spl : T → T → List T) : Prop where
  pos : 0 < sep.length
  hit : ∀ cur rest, spl cur (sep ++ rest) = cur :: spl [] rest
  miss : ∀ cur c rest, sep.length ≤ rest.length + 1 → (c :: rest).take sep.length ≠ sep → spl cur (c :: rest) = spl (cur ++ [c]) rest
  fin : ∀ cur rest, rest.length < sep.length → spl cur rest = [cur ++ rest]
theorem cuts1 : Cuts [32] spl1 := by
  refine ⟨by decide, fun cur rest => ?_, fun cur c rest _ h => ?_, fun cur rest h => ?_⟩
  · show spl1 cur (32 :: rest) = _
    rw [spl1, if_pos rfl]
  · rw [spl1, if_neg (fun e => h (by rw [e]; rfl))]
  · have : rest = [] := List.eq_nil_of_length_eq_zero (by simpa using h)
    rw [this]; simp [spl1]
theorem cuts2 : Cuts [59, 32] spl2 := by
  refine ⟨by decide, fun cur rest => ?_, fun cur c rest hl h => ?_, fun cur rest h => ?_⟩
  · show spl2 cur (59 :: 32 :: rest) = _
    rw [spl2, if_pos ⟨rfl, rfl⟩]
  · cases rest with
    | nil => simp at hl
    | cons d rest => rw [spl2, if_neg (fun e => h (by rw [e.1, e.2]; rfl))]
  · cases rest with
    | nil => simp [spl2]
    | cons c rest =>
      have : rest = [] := List.eq_nil_of_length_eq_zero (by simp at h; omega)
      rw [this]; simp [spl2]
/-- At place i, with the signs from the place k on still to be told. -/
theorem Cuts.at_hit {sep : T} {spl : T → T → List T} (h : Cuts sep spl) {s : T} {k i : Nat} (hm : (s.drop i).take sep.length = sep) : spl ((s.take i).drop k) (s.drop i) = (s.take i).drop k :: spl [] (s.drop (i + sep.length)) := by
  have e : s.drop i = sep ++ s.drop (i + sep.length) := by
    have := List.take_append_drop sep.length (s.drop i)
    rw [hm, List.drop_drop] at this
    exact this.symm
  rw [e, h.hit]
theorem Cuts.at_miss {sep : T} {spl : T → T → List T} (h : Cuts sep spl) {s : T} {k i : Nat} (hk : k ≤ i) (hl : i + sep.length ≤ s.length) (hm : (s.drop i).take sep.length ≠ sep) : spl ((s.take i).drop k) (s.drop i) = spl ((s.take (i + 1)).drop k) (s.drop (i + 1)) := by
  have hp := h.pos
  have hi : i < s.length := by omega
  have e : s.drop i = s[i] :: s.drop (i + 1) := List.drop_eq_getElem_cons hi
  have e2 : (s.take (i + 1)).drop k = (s.take i).drop k ++ [s[i]] := by
    rw [List.take_succ_eq_append_getElem hi, List.drop_append_of_le_length (by simp; omega)]
  rw [e] at hm ⊢
  rw [e2, h.miss _ _ _ (by simp; omega) hm]
theorem Cuts.at_end {sep : T} {spl : T → T → List T} (h : Cuts sep spl) {s : T} {k i : Nat} (hk : k ≤ i) (hi : i ≤ s.length) (hl : s.length < i + sep.length) : spl ((s.take i).drop k) (s.drop i) = [s.drop k] := by
  rw [h.fin _ _ (by simp; omega)]
  congr 1
  have : s.drop k = (s.take i ++ s.drop i).drop k := by rw [List.take_append_drop]
  rw [this, List.drop_append_of_le_length (by simp; omega)]
end Go.Proofs.YthmkgfdglkdjmadGreatDoor

namespace Go.Proofs.YthmkgfdglkdjmadGreatDoor
open Go.Lib

theorem Cuts.walk {sep : T} {spl : T → T → List T} (h : Cuts sep spl) {s : T} : ∀ i : Nat, (∀ j, j < i → (s.drop j).take sep.length ≠ sep) → (i = 0 ∨ i + sep.length ≤ s.length + 1) → spl [] s = spl ((s.take i).drop 0) (s.drop i)
  | 0, _, _ => by simp
  | i + 1, hj, hl => by
    have hp := h.pos
    rw [Cuts.walk h i (fun j hj' => hj j (by omega)) (by omega)]
    exact h.at_miss (k := 0) (by omega) (by omega) (hj i (by omega))
theorem occ_take {s sep : T} {j : Nat} (hl : j + sep.length ≤ s.length) (h : occAt s sep j = false) : (s.drop j).take sep.length ≠ sep := by
  rw [occAt_iff_take s sep j hl] at h
  intro e; rw [e] at h; simp at h
/-- The library's cuts. -/
theorem split_cuts {sep : T} {spl : T → T → List T} (h : Cuts sep spl) : ∀ (k : Nat) (s : T), s.length ≤ k → splitK sep 0 (count s sep) s = spl [] s := by
  have hp := h.pos
  have hne : sep ≠ [] := fun e => by rw [e] at hp; simp at hp
  intro k
  induction k with
  | zero =>
    intro s hk
    have : s = [] := List.eq_nil_of_length_eq_zero (by omega)
    subst this
    have hi : index [] sep = -1 := by
      unfold index; rw [if_neg]; simpa using hne
    rw [count_miss hi, h.fin [] [] (by simpa using hp)]; rfl
  | succ k ih =>
    intro s hk
    rcases index_spec s sep with ⟨hi, hno⟩ | ⟨i, hi, hle, hocc, hno⟩
    · rw [count_miss hi]
      show [s] = _
      by_cases hl : sep.length ≤ s.length
      · rw [h.walk (s := s) (s.length + 1 - sep.length) (fun j hj => occ_take (by omega) (hno j (by omega))) (by omega), h.at_end (k := 0) (by omega) (by omega) (by omega)]
        simp
      · rw [h.fin [] s (by omega)]; simp
    · have hroom : i + sep.length ≤ s.length := by
        rcases occAt_room hocc with h1 | h1
        · exact h1
        · exact absurd h1 hne
      have hlt := drop_shorter (s := s) hne (by rw [hi]; simp)
      rw [count_hit hne hi, Nat.add_comm 1, splitK, if_neg (by rw [hi]; simp), hi]
      simp only [Int.toNat_natCast, Nat.add_zero]
      rw [hi, Int.toNat_natCast] at hlt
      rw [ih _ (by omega), h.walk (s := s) i (fun j hj => occ_take (by omega) (hno j hj)) (by omega)]
      have ht : (s.drop i).take sep.length = sep := by
        have := occAt_iff_take s sep i hroom
        rw [hocc] at this
        simpa using this.symm
      rw [h.at_hit (k := 0) ht]
      simp
theorem splitB_cuts {sep : T} {spl : T → T → List T} (h : Cuts sep spl) (s : ByteArray) : splitB (ofT sep) 0 (countB s (ofT sep)) s = (spl [] (keyT s)).map ofT := by
  have e := splitB_data (ofT sep) 0 (countB s (ofT sep)) s
  have e1 : (ofT sep).data.toList = sep := keyT_ofT sep
  rw [e1] at e
  have e2 : countB s (ofT sep) = count (keyT s) sep := by
    show count s.data.toList (ofT sep).data.toList = _
    rw [e1]; rfl
  rw [e2] at e ⊢
  have e3 := split_cuts h _ (keyT s) (Nat.le_refl _)
  have e4 : (splitB (ofT sep) 0 (count (keyT s) sep) s).map keyT = spl [] (keyT s) := e.trans e3
  rw [← e4, List.map_map]
  have : (ofT ∘ keyT) = id := by funext x; exact ofT_keyT x
  rw [this, List.map_id]
theorem join_join1 : ∀ l : List T, Lib.join l [32] = join1 l
  | [] => rfl
  | [x] => by rw [join_one]; rfl
  | x :: y :: l => by
    have ih := join_join1 (y :: l)
    rw [join1_cons x (by simp), ← ih]
    simp [Lib.join, List.intercalate, List.intersperse]
theorem join_join2 : ∀ l : List T, Lib.join l [59, 32] = join2 l
  | [] => rfl
  | [x] => by rw [join_one]; rfl
  | x :: y :: l => by
    have ih := join_join2 (y :: l)
    rw [join2_cons x (by simp), ← ih]
    simp [Lib.join, List.intercalate, List.intersperse]
end Go.Proofs.YthmkgfdglkdjmadGreatDoor
